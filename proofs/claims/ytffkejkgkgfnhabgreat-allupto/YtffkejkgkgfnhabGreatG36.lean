import Derived.Test.YtffkejkgkgfnhabGreatG35
import Derived.Test.YtffkejkgkgfnhabGreatG15
import Derived.Lib.AppendStr
namespace Go.Proofs.YtffkejkgkgfnhabGreat
open Go.RowKit
set_option linter.unusedVariables false
set_option maxRecDepth 100000 in
set_option maxHeartbeats 2000000 in
theorem b120 (w : World) (p : WrP) (R : List Dat) (st : Pst) (nm : ByteArray) (hR : R.length ≤ 1000) (h : WrOK w p R st) :
   Calls Tryz.prog 116 #[.pointer (some ⟨p.pb, 0, none⟩), .string nm] w fun e w' => FldQ w p.N nm R e ∧ Below w.heap.size w w' := by
  obtain ⟨ra, rc, oa, oc, hC⟩ := h
  have HP := hidS hC
  have c1 := hC.c1
  have hlt := hC.lt
  have hNl := hC.le
  clear hC
  go_enter Tryz.func116, Tryz.ntmps116
  go_wp2
  go_loop [6, 7, 8] (fun i _ _ => ∃ k : Nat, k ≤ R.length ∧ i = .int .i64 ((k : Int) - 1) ∧ Hid (lkp nm R = lkp nm (R.take k))) (fun i _ _ => (intOf i + 1).toNat)
  case atStart => exact ⟨R.length, Nat.le_refl _, rfl, by rw [List.take_length]; exact rfl⟩
  case round =>
    obtain ⟨k, hk, rfl, H⟩ := hrel
    cases k with
    | zero =>
      have HF : Hid (lkp nm R = none) := by show _ = _; rw [H.out]; rfl
      go_wp2
      refine bodyPost_ret (v := .tuple #[.agg #[.string ⟨#[]⟩, .bool false, .string ⟨#[]⟩, .slice none 0 0], .bool false]) (by simp [results, Tryz.results116, go_sem]) rfl ⟨.inl ⟨HF.out, rfl⟩, ?_⟩
      first | exact Below.refl _ _ | exact (Below.refl _ _).alloc (Nat.le_refl _) _
    | succ k =>
      obtain ⟨g, rfl, hrc, a, c, hcell, hV, hok, hbulk, hlc, hcm⟩ := HP.out.rowAt k (by omega)
      have HS := hidS (lkp_at nm R k (by omega))
      have hg : g < w.heap.size := by
        obtain ⟨xs, o1, _⟩ := HP.out.ownR
        exact (o1.lt g rfl).2
      have HV := hidS hV
      have HO := hidS hok
      have HBk := hidS hbulk
      have hfl : R[k].len ≤ maxLen := Nat.le_trans hlc hcm
      unfold maxLen at hfl
      clear hV hok hbulk
      generalize hD : R[k] = D at *
      have HD := hidS hD
      clear hD
      go_wp2
      go_loop [8] (fun i => ∃ j : Nat, j ≤ D.len ∧ i = .int .i64 j ∧ Hid (D.fnd nm = (D.drop j).fnd nm)) (fun i => D.len - (intOf i).toNat)
      case atStart => exact ⟨0, Nat.zero_le _, rfl, by rw [Dat.drop_zero]; exact rfl⟩
      case round =>
        obtain ⟨j, hj, rfl, H2⟩ := hrel
        by_cases hjl : j < D.len
        · rcases HV.out with h0 | ⟨b, off, rfl, hb, hat⟩
          · omega
          · obtain ⟨n, li, tx, rows, e1, e2, e3, k0, k1, k2, a3, c3, k3, k4, k5, k6⟩ := DatAt.field D b off j HO.out hjl hat
            have hbl : b < w.heap.size := by omega
            have hE := Dat.fnd_at nm e1
            have HK6 := hidS k6
            have HE2 := hidS e2
            have HBB : Hid (rows.fits ∧ tx.size ≤ maxLen) := by
              have q := Dat.fits_drop D j HBk.out
              rw [e1] at q
              exact ⟨q.2.1, q.1⟩
            clear hat k6 e2 e3 e1
            cases hB : nmEq n nm
            · have HF : Hid (D.fnd nm = (D.drop (j + 1)).fnd nm) := by show _ = _; rw [H2.out, hE, hB]; rfl
              unfold nmEq at hB
              clear hE H2 k1 k2 k3
              go_wp2
              go_round
              case rel => exact ⟨j + 1, by omega, by go_num, HF.out⟩
              case measure => simp [intOf]; omega
            · have HF : Hid (lkp nm R = some (n, li, tx, rows)) := by
                show _ = _
                rw [H.out, HS.out, H2.out, hE, hB]; rfl
              unfold nmEq at hB
              generalize hrl : rows.len = rl at *
              have HRL := hidS hrl
              clear hE H2 hrl
              go_wp2
              refine bodyPost_ret (v := .tuple #[.agg #[.string n, .bool li, .string tx, .slice a3 rl c3], .bool true]) (by simp [results, Tryz.results116, go_sem]) rfl ⟨.inr ⟨n, li, tx, rows, a3, c3, HF.out, by rw [HRL.out], HK6.out, HE2.out, HBB.out, by rw [HRL.out]; exact k4, k5⟩, ?_⟩
              first | exact Below.refl _ _ | exact (Below.refl _ _).alloc (Nat.le_refl _) _
        · have HF : Hid (lkp nm R = lkp nm (R.take k)) := by
            show _ = _
            rw [H.out, HS.out, H2.out, Dat.drop_end D j (by omega)]; rfl
          go_wp2
          go_round
          case rel => exact ⟨k, by omega, by go_num, HF.out⟩
          case measure => simp [intOf]
set_option maxRecDepth 100000 in
set_option maxHeartbeats 1000000 in
theorem b134 (w : World) (n t : ByteArray) (l : Bool) (a : Option Addr) (rows : Dat) (c : Nat) (hlc : rows.len ≤ c) (hcm : c ≤ maxLen) :
   Calls Tryz.prog 130 #[.agg #[.string n, .bool l, .string t, .slice a rows.len c]] w fun e w' => e = .returned (.bool (yesF l t rows)) ∧ Below w.heap.size w w' := by
  unfold maxLen at hcm
  cases l
  · have hy : yesF false t rows = decide (0 < t.size) := rfl
    have hne : t.toList.isEmpty = decide (t.size = 0) := by
      have h : t.toList = t.data.toList := ByteArray.toList_eq t
      rw [h]
      cases t with | mk d => cases d with | mk l => cases l <;> simp [ByteArray.size]
    by_cases h0 : t.size = 0
    · have hne2 : t.toList.isEmpty = true := by rw [hne]; exact decide_eq_true h0
      have hy2 : yesF false t rows = false := by rw [hy]; exact decide_eq_false (by omega)
      rw [hy2]
      clear hne hy hy2
      generalize rows.len = rl at *
      go_enter Tryz.func130, Tryz.ntmps130
      go_wp2
      go_ret
      exact ⟨ret_bool (by simp), by first | exact Below.refl _ _ | exact (Below.refl _ _).alloc (Nat.le_refl _) _⟩
    · have hne2 : t.toList.isEmpty = false := by rw [hne]; exact decide_eq_false h0
      have hy2 : yesF false t rows = true := by rw [hy]; exact decide_eq_true (by omega)
      rw [hy2]
      clear hne hy hy2
      generalize rows.len = rl at *
      go_enter Tryz.func130, Tryz.ntmps130
      go_wp2
      go_ret
      exact ⟨ret_bool (by simp), by first | exact Below.refl _ _ | exact (Below.refl _ _).alloc (Nat.le_refl _) _⟩
  · have hy : yesF true t rows = decide (0 < rows.len) := rfl
    rw [hy]
    clear hy
    generalize rows.len = rl at *
    go_enter Tryz.func130, Tryz.ntmps130
    go_wp2
    go_ret
    exact ⟨ret_bool (by simp), by first | exact Below.refl _ _ | exact (Below.refl _ _).alloc (Nat.le_refl _) _⟩
end Go.Proofs.YtffkejkgkgfnhabGreat
namespace Go.Proofs.YtffkejkgkgfnhabGreat
open Go.RowKit
set_option linter.unusedVariables false
def filQ (l : Bool) (t : ByteArray) (st : Pst) : Pst := if l = true then { st with err := 8 } else holF t st
theorem own_formQ {w : World} {base ty : Nat} {v : Value} {n : Nat} {xs : List Value} (h : w.ownsRow base ty 1 v n xs) : ∃ oa oc, v = .slice oa n oc := by
  rcases h.2 with ⟨rfl, rfl⟩ | ⟨g, cap, cur, rfl, _⟩
  · exact ⟨none, 0, rfl⟩
  · exact ⟨_, cap, rfl⟩
theorem escB_le (c : Int) (t : ByteArray) : (escB c t).size ≤ 6 * t.size + 2 := by
  have h1 := acc_len c t.data.toList
  have h2 := (pre_ok c).2
  have e : t.data.toList.length = t.size := rfl
  unfold escB
  rw [strOfNums_size, escL, List.length_append]
  omega
set_option maxRecDepth 100000 in
set_option maxHeartbeats 4000000 in
theorem b121 (w : World) (p : WrP) (R : List Dat) (st : Pst) (n t : ByteArray) (l : Bool) (a : Option Addr) (rl c : Nat) (ht : t.size ≤ maxLen) (he : st.err = 0) (h : WrOK w p R st) :
   Calls Tryz.prog 117 #[.pointer (some ⟨p.pb, 0, none⟩), .agg #[.string n, .bool l, .string t, .slice a rl c]] w (WrPost p R (filQ l t st) w) := by
  obtain ⟨i0, hi, hz0, hz1, hzz⟩ := info_parts info5
  unfold maxLen at ht
  obtain ⟨ra, rc, oa, oc, hC⟩ := h
  have HWC := hidS hC
  have c2 := hC.c2
  have c3 := hC.c3
  have f2 := hC.f2
  have hsz := hC.fit.1
  have hpl := hC.lt
  clear hC
  cases l
  · have HE : Hid (filQ false t st = holF t st) := rfl
    cases ho : opB (ctxO st.out)
    · have HF : Hid (holF t st = { st with err := 10 }) := by show _ = _; rw [holF, if_neg (by rw [ho]; decide)]
      by_cases hcut : 2000 < t.size
      · have Hc := hidS (fun wx => c17no (ctxO st.out) (t.extract 0 2001) wx ho)
        generalize ctxO st.out = cx at *
        go_enter Tryz.func117, Tryz.ntmps117
        go_wp2_with fail
        refine (Hc.out _).mono ?_
        rintro e w' ⟨rfl, hw⟩
        obtain rfl := hw.symm
        go_wp2
        go_ret
        exact wr_stop 10 (by rw [HE.out, HF.out]) (by decide) (by first | exact ChW.refl _ _ | exact (ChW.refl _ _).alloc _)
      · have Hc := hidS (fun wx => c17no (ctxO st.out) t wx ho)
        generalize ctxO st.out = cx at *
        go_enter Tryz.func117, Tryz.ntmps117
        go_wp2_with fail
        refine (Hc.out _).mono ?_
        rintro e w' ⟨rfl, hw⟩
        obtain rfl := hw.symm
        go_wp2
        go_ret
        exact wr_stop 10 (by rw [HE.out, HF.out]) (by decide) (by first | exact ChW.refl _ _ | exact (ChW.refl _ _).alloc _)
    · have HF : Hid (holF t st = if 2000 < st.out.size + (escB (ctxO st.out) t).size then { st with err := 13 } else { st with out := st.out ++ escB (ctxO st.out) t }) := by show _ = _; rw [holF, if_pos ho]
      by_cases hcut : 2000 < t.size
      · have hge := escB_ge (ctxO st.out) t
        have HF2 : Hid (holF t st = { st with err := 13 }) := by show _ = _; rw [HF.out, if_pos (by omega)]
        have hsx : (t.extract 0 2001).size = 2001 := by rw [ext_size t 0 2001 (by omega)]
        have hge2 := escB_ge (ctxO st.out) (t.extract 0 2001)
        have hle2 := escB_le (ctxO st.out) (t.extract 0 2001)
        have Hc := hidS (fun wx => c17 (ctxO st.out) (t.extract 0 2001) wx ho (by omega))
        change Hid (∀ wx, Calls Tryz.prog 19 _ wx fun e w' => e = .returned (.tuple #[.string (escB (ctxO st.out) (t.extract 0 2001)), .int .i64 0]) ∧ _) at Hc
        clear HF ho hge
        generalize escB (ctxO st.out) (t.extract 0 2001) = E at *
        generalize ctxO st.out = cx at *
        go_enter Tryz.func117, Tryz.ntmps117
        go_wp2_with fail
        have hbw : Below w.heap.size w (w.alloc (.cells #[.string n, .bool false, .string t, .slice a rl c] 88)) := (Below.refl _ _).alloc (Nat.le_refl _) _
        refine (Hc.out _).mono ?_
        rintro e w1 ⟨rfl, hb1⟩
        have d2 := (hb1.cell (p := ⟨p.pb, 2, none⟩) (by show p.pb < _; simp; omega)).trans ((hbw.cell (p := ⟨p.pb, 2, none⟩) hpl).trans c2)
        have hb2 := hbw.trans (hb1.mono (by simp))
        have hp1 : p.pb < w1.heap.size := by have := hb2.size; omega
        clear Hc hb1 hbw c2
        go_wp2
        go_ret
        exact wr_stop 13 (by rw [HE.out, HF2.out]) (by decide) (ChW.of_below hb2)
      · have hle2 := escB_le (ctxO st.out) t
        have Hc := hidS (fun wx => c17 (ctxO st.out) t wx ho (by omega))
        change Hid (∀ wx, Calls Tryz.prog 19 _ wx fun e w' => e = .returned (.tuple #[.string (escB (ctxO st.out) t), .int .i64 0]) ∧ _) at Hc
        have HX := hidS (ctxO_esc st.out t ho)
        generalize escB (ctxO st.out) t = E at *
        go_enter Tryz.func117, Tryz.ntmps117
        go_wp2_with fail
        have hbw : Below w.heap.size w (w.alloc (.cells #[.string n, .bool false, .string t, .slice a rl c] 88)) := (Below.refl _ _).alloc (Nat.le_refl _) _
        refine (Hc.out _).mono ?_
        rintro e w1 ⟨rfl, hb1⟩
        have hb2 := hbw.trans (hb1.mono (by simp))
        have hC1 := HWC.out.below hb2
        clear Hc hb1 hbw c2 c3 f2 HWC
        have c2 := hC1.c2
        have f2 := hC1.f2
        have hp1 := hC1.lt
        have HO := hidS hC1.ownO
        have HWC := hidS hC1
        clear hC1
        by_cases hbig : 2000 < st.out.size + E.size
        · have HF2 : Hid (holF t st = { st with err := 13 }) := by show _ = _; rw [HF.out, if_pos hbig]
          go_wp2
          go_ret
          exact wr_stop 13 (by rw [HE.out, HF2.out]) (by decide) (ChW.of_below hb2)
        · have HF2 : Hid (holF t st = { st with out := st.out ++ E }) := by show _ = _; rw [HF.out, if_neg hbig]
          have hneP : some p.pb ≠ (Value.slice oa st.out.size oc).ownBlock := fun e => by have := (HO.out.lt _ e.symm).1; omega
          go_wp2_with (at_builtin; refine Lib.wpList_append_own_string _ rfl _ _ 76 9 rfl (p.pb + 1) 5 i0 Tryz.underlying76 Tryz.underlying9 hi hz0 hz1 hzz _ _ _ rfl HO.out E rfl ?c1 ?c2 ?c3 ?_)
          case c1 => unfold maxLen; omega
          case c2 => omega
          case c3 => omega
          intro v' w3 hown3 hg3 _
          obtain ⟨oa', oc', rfl⟩ := own_formQ hown3
          have hbk : w3.heap[p.pb]? = w1.heap[p.pb]? := hg3.block p.pb hp1 hneP
          have q1 : w3.cell? ⟨p.pb, 2, none⟩ = some (.slice oa st.out.size oc) := (World.cell?_of_block hbk).trans c2
          have p1 : w3.frozen? ⟨p.pb, 2, none⟩ = false := (World.frozen?_of_block hbk).trans f2
          have hOs : (st.out ++ E).size = st.out.size + E.size := ByteArray.size_append
          have hput := HWC.out.put (w' := w3.setCell ⟨p.pb, 2, none⟩ (.slice oa' (st.out.size + E.size) oc')) (oa' := oa') (oc' := oc') (O := st.out ++ E)
            hg3.os hg3.tape hg3.output (by simpa using hg3.size)
            (fun q h1 h2 h3 => (set_far w3 _ _ _ q h2).trans (hg3.block q h1 (Ne.symm h3)))
            ((cellO w3 _ _ _ _ (by decide)).trans (World.cell?_of_block hbk)) ((cellO w3 _ _ _ _ (by decide)).trans (World.cell?_of_block hbk))
            (by rw [hOs]; exact cellS _ q1) (by rw [HX.out]; exact (cellO w3 _ _ _ _ (by decide)).trans ((World.cell?_of_block hbk).trans HWC.out.c3)) ((cellO w3 _ _ _ _ (by decide)).trans (World.cell?_of_block hbk))
            (fun j hj => by have := (World.frozen?_of_block (a := ⟨p.pb, j, none⟩) hbk).trans hj; simpa using this)
            (by rw [hOs, cells_app]; exact own_keep hown3 (fun q hq => set_far w3 _ _ _ q (by have := (hown3.lt q hq).1; omega))) (by rw [hOs]; omega) (by rw [HX.out]; exact HWC.out.ctx)
          have HPUT := hidS hput
          have hp3 : p.pb < w3.heap.size := by have := hg3.size; omega
          clear hput hown3 hg3 hbk
          go_wp2
          go_ret
          exact wr_ok (by rw [HE.out, HF2.out]; exact he) (by rw [HE.out, HF2.out]; exact ⟨ra, rc, _, _, HPUT.out.1⟩) ((ChW.of_below hb2).trans HPUT.out.2)
  · have HE : Hid (filQ true t st = { st with err := 8 }) := rfl
    go_enter Tryz.func117, Tryz.ntmps117
    go_wp2
    go_ret
    exact wr_stop 8 (by rw [HE.out]) (by decide) (by first | exact ChW.refl _ _ | exact (ChW.refl _ _).alloc _)
end Go.Proofs.YtffkejkgkgfnhabGreat
