import Derived.Test.YtffkejkgkgfnhaaG19
import Derived.Test.YtffkejkgkgfnhaaG21
import Derived.Deep.RegionLaw
import Derived.Test.YtffkejkgkgfnhaaG10
namespace Go.Proofs.Ytffkejkgkgfnhaa
open Go.RowKit
set_option linter.unusedVariables false
theorem bend_at (A : List Ak) (k d : Nat) (h : k < A.length) : bendF (A.drop k) d k = if d = 0 ∧ ebK A[k].kind = true then k else bendF (A.drop (k + 1)) (if A[k].kind = 4 ∨ A[k].kind = 6 then d + 1 else if A[k].kind = 7 then d - 1 else d) (k + 1) := by
  rw [List.drop_eq_getElem_cons h]; rfl
theorem b97 (k : Int) (w : World) : Calls Try.prog 61 #[.int .i64 k] w fun e w' => e = .returned (.bool (ebK k)) ∧ w' = w := by
  go_enter Try.func61, Try.ntmps61
  go_wp2
  all_goals go_ret
  all_goals refine ⟨ret_bool ?_, rfl⟩
  all_goals grind (splits := 40) [ebK]
set_option maxRecDepth 100000 in
set_option maxHeartbeats 2000000 in
theorem b117 (s : ByteArray) (w : World) (g ac : Nat) (A : List Ak) (i : Nat) (hi : i ≤ A.length) (hA : A.length ≤ 1000) (hat : AkAt s w g A) :
    Calls Try.prog 75 #[.slice (some ⟨g, 0, none⟩) A.length ac, .int .i64 i] w fun e w' => e = .returned (.int .i64 (endI A i)) ∧ w' = w := by
  have HAT := hidS hat
  clear hat
  go_enter Try.func75, Try.ntmps75
  go_wp2
  go_loop [5, 6] (fun dv iv => ∃ (d k : Nat), i ≤ k ∧ k ≤ A.length ∧ d ≤ k ∧ dv = .int .i64 d ∧ iv = .int .i64 k ∧ Hid (endI A i = bendF (A.drop k) d k)) (fun _ iv => A.length - (intOf iv).toNat)
  case atStart => exact ⟨0, i, Nat.le_refl _, hi, Nat.zero_le _, rfl, rfl, rfl⟩
  case round =>
    obtain ⟨d, k, h1, h2, hd, rfl, rfl, H⟩ := hrel
    by_cases hlt : k < A.length
    · obtain ⟨c0, _⟩ := HAT.out k hlt
      have HS := hidS (bend_at A k d hlt)
      have b1 : (k : Int) < (A.length : Int) := by omega
      generalize A[k].kind = kd at *
      by_cases hz : d = 0 ∧ ebK kd = true
      · have HF : Hid (endI A i = k) := by show _ = _; rw [H.out, HS.out, if_pos hz]
        obtain ⟨rfl, hz⟩ := hz
        have Hc := hidS (b97 kd w)
        rw [hz] at Hc
        clear H HS
        go_wp2_with (go_at_call 61; refine Hc.out.mono ?_; rintro e w' ⟨rfl, hw⟩; obtain rfl := hw.symm)
        go_ret
        exact ⟨ret_int (by rw [HF.out]), rfl⟩
      · have HF : Hid (endI A i = bendF (A.drop (k + 1)) (if kd = 4 ∨ kd = 6 then d + 1 else if kd = 7 then d - 1 else d) (k + 1)) := by show _ = _; rw [H.out, HS.out, if_neg hz]
        clear H HS
        have Hc : Hid (d = 0 → Calls Try.prog 61 #[.int .i64 kd] w fun e w' => e = .returned (.bool false) ∧ w' = w) := fun h0 => by
          have hf : ebK kd = false := by
            cases hq : ebK kd
            · rfl
            · exact absurd ⟨h0, hq⟩ hz
          have := b97 kd w
          rw [hf] at this
          exact this
        have hd7 : d = 0 → kd ≠ 7 := fun h0 h7 => hz ⟨h0, by subst h7; decide⟩
        clear hz
        by_cases h4 : kd = 4 ∨ kd = 6
        · rw [if_pos h4] at HF
          rcases h4 with rfl | rfl
          all_goals
            go_wp2_with (go_at_call 61; refine (Hc.out (by omega)).mono ?_; rintro e w' ⟨rfl, hw⟩; obtain rfl := hw.symm)
            all_goals (go_round)
            all_goals first | (show A.length - _ < _; simp [intOf]; omega) | exact ⟨d + 1, k + 1, by omega, by omega, by omega, by go_num, by go_num, HF.out⟩
        · rw [if_neg h4] at HF
          by_cases h7 : kd = 7
          · subst h7
            have hd0 : d ≠ 0 := fun h0 => hd7 h0 rfl
            have hne : ((d : Int) == 0) = false := by simp; omega
            rw [if_pos rfl] at HF
            have ed : ((d - 1 : Nat) : Int) = (d : Int) - 1 := by omega
            go_wp2_with (go_at_call 61; refine (Hc.out (by omega)).mono ?_; rintro e w' ⟨rfl, hw⟩; obtain rfl := hw.symm)
            all_goals (go_round)
            all_goals first | (show A.length - _ < _; simp [intOf]; omega) | exact ⟨d - 1, k + 1, by omega, by omega, by omega, by rw [ed], by go_num, HF.out⟩
          · rw [if_neg h7] at HF
            have e4 : (kd == 4) = false := by simp; omega
            have e6 : (kd == 6) = false := by simp; omega
            have e7 : (kd == 7) = false := by simp; omega
            go_wp2_with (go_at_call 61; refine (Hc.out (by omega)).mono ?_; rintro e w' ⟨rfl, hw⟩; obtain rfl := hw.symm)
            all_goals (go_round)
            all_goals first | (show A.length - _ < _; simp [intOf]; omega) | exact ⟨d, k + 1, by omega, by omega, by omega, by go_num, by go_num, HF.out⟩
    · have HF : Hid (endI A i = A.length) := by
        show _ = _
        rw [H.out, List.drop_eq_nil_of_le (by omega)]
        show k = _
        omega
      go_wp2
      go_ret
      exact ⟨ret_int (by rw [HF.out]), rfl⟩
set_option maxRecDepth 100000 in
set_option maxHeartbeats 2000000 in
theorem b95 (s : ByteArray) (w : World) (g ac : Nat) (A : List Ak) (i : Nat) (hi : i < A.length) (hA : A.length ≤ 1000) (hat : AkAt s w g A) :
    Calls Try.prog 59 #[.slice (some ⟨g, 0, none⟩) A.length ac, .int .i64 i] w fun e w' => e = .returned (.int .i64 (behF A i)) ∧ w' = w := by
  have HAT := hidS hat
  have Hc := hidS (fun (k : Nat) (hk : k ≤ A.length) => b117 s w g ac A k hk hA hat)
  obtain ⟨c0, _⟩ := hat i hi
  have hki := kAt_in A i hi
  clear hat
  have hl1 : endI A (i + 1) ≤ A.length := by
    have := bend_le (A.drop (i + 1)) 0 (i + 1)
    simp at this
    show bendF _ _ _ ≤ _
    omega
  have hg1 : i + 1 ≤ endI A (i + 1) := bend_ge _ _ _
  by_cases h4 : A[i].kind ≠ 4 ∧ A[i].kind ≠ 6
  · have HF : Hid (behF A i = i + 1) := by show _ = _; rw [behF, if_pos (by rw [hki]; exact h4)]
    generalize A[i].kind = kd at *
    obtain ⟨h4, h6⟩ := h4
    have e4 : (kd != 4) = true := by simpa using h4
    have e6 : (kd != 6) = true := by simpa using h6
    go_enter Try.func59, Try.ntmps59
    go_wp2
    go_ret
    exact ⟨ret_int (by rw [HF.out]; omega), rfl⟩
  · have HF : Hid (behF A i = if kAt A (endI A (i + 1)) = 5 then endI A (endI A (i + 1) + 1) + 1 else endI A (i + 1) + 1) := by show _ = _; rw [behF, if_neg (by rw [hki]; exact h4)]
    have H1 := hidS (Hc.out (i + 1) (by omega))
    have H2 := hidS (fun (h : endI A (i + 1) < A.length) => Hc.out (endI A (i + 1) + 1) (by omega))
    have hcast : ((i + 1 : Nat) : Int) = (i : Int) + 1 := by omega
    rw [hcast] at H1
    have hj : endI A (i + 1) < A.length → w.cell? ⟨g, endI A (i + 1) * 5, none⟩ = some (.int .i64 (kAt A (endI A (i + 1)))) := fun h => by
      rw [kAt_in A _ h]; exact (HAT.out _ h).1
    have hno : ¬ endI A (i + 1) < A.length → kAt A (endI A (i + 1)) ≠ 5 := fun h => by
      unfold kAt
      rw [List.getElem?_eq_none (by omega)]; decide
    have h46 : A[i].kind = 4 ∨ A[i].kind = 6 := by
      by_cases q : A[i].kind = 4
      · exact .inl q
      · by_cases q2 : A[i].kind = 6
        · exact .inr q2
        · exact absurd ⟨q, q2⟩ h4
    have hlE : endI A (endI A (i + 1) + 1) ≤ endI A (i + 1) + 1 + (A.drop (endI A (i + 1) + 1)).length := bend_le _ _ _
    clear h4 Hc HAT
    generalize endI A (endI A (i + 1) + 1) = J2 at *
    generalize hJ : endI A (i + 1) = J at *
    by_cases hlt : J < A.length
    · have cj := hj hlt
      have hcast2 : ((J + 1 : Nat) : Int) = (J : Int) + 1 := by omega
      have H3 := hidS (H2.out hlt)
      rw [hcast2] at H3
      have hJ2 : J2 ≤ A.length := by simp at hlE; omega
      generalize kAt A J = kj at *
      clear hj hno H2 hlE
      by_cases h5 : kj = 5
      · rw [if_pos h5] at HF
        subst h5
        rcases h46 with q | q
        all_goals
          rw [q] at c0
          clear hki q
          go_enter Try.func59, Try.ntmps59
          go_wp2_with fail
          refine H1.out.mono ?_
          rintro e w' ⟨rfl, hw⟩
          obtain rfl := hw.symm
          go_wp2_with fail
          refine H3.out.mono ?_
          rintro e w' ⟨rfl, hw⟩
          obtain rfl := hw.symm
          go_wp2
          go_ret
          exact ⟨ret_int (by rw [HF.out]; omega), rfl⟩
      · rw [if_neg h5] at HF
        have e5 : (kj == 5) = false := by simpa using h5
        rcases h46 with q | q
        all_goals
          rw [q] at c0
          clear hki q
          go_enter Try.func59, Try.ntmps59
          go_wp2_with fail
          refine H1.out.mono ?_
          rintro e w' ⟨rfl, hw⟩
          obtain rfl := hw.symm
          go_wp2
          go_ret
          exact ⟨ret_int (by rw [HF.out]; omega), rfl⟩
    · rw [if_neg (hno hlt)] at HF
      rcases h46 with q | q
      all_goals
        rw [q] at c0
        clear hki q hj hno H2
        go_enter Try.func59, Try.ntmps59
        go_wp2_with fail
        refine H1.out.mono ?_
        rintro e w' ⟨rfl, hw⟩
        obtain rfl := hw.symm
        go_wp2
        go_ret
        exact ⟨ret_int (by rw [HF.out]; omega), rfl⟩
end Go.Proofs.Ytffkejkgkgfnhaa
namespace Go.Proofs.Ytffkejkgkgfnhaa
open Go.RowKit
set_option linter.unusedVariables false
def WrPost (p : WrP) (R : List Dat) (st' : Pst) (w : World) (e : Ending) (w' : World) : Prop := e = .returned (.int .i64 st'.err) ∧ (st'.err = 0 → WrOK w' p R st') ∧ ChW p w w'
theorem wr_stop {p : WrP} {R : List Dat} {s' : Pst} {w w' : World} (x : Int) (h : s'.err = x) (hx : x ≠ 0) (hc : ChW p w w') : WrPost p R s' w (.returned (.int .i64 x)) w' := ⟨by rw [h], fun q => absurd (h ▸ q) hx, hc⟩
theorem wr_ok {p : WrP} {R : List Dat} {s' : Pst} {w w' : World} (h : s'.err = 0) (hw : WrOK w' p R s') (hc : ChW p w w') : WrPost p R s' w (.returned (.int .i64 0)) w' := ⟨by rw [h], fun _ => hw, hc⟩
set_option maxRecDepth 100000 in
theorem b118 (w : World) (pb n : Nat) (hn : n < 500) (h4 : w.cell? ⟨pb, 4, none⟩ = some (.int .i64 n)) (f4 : w.frozen? ⟨pb, 4, none⟩ = false) :
   Calls Try.prog 76 #[.pointer (some ⟨pb, 0, none⟩)] w fun e w' => e = .returned (.int .i64 0) ∧ w' = w.setCell ⟨pb, 4, none⟩ (.int .i64 (n + 1)) := by
  go_enter Try.func76, Try.ntmps76
  go_wp2
  go_ret
  exact ⟨rfl, rfl⟩
set_option maxRecDepth 100000 in
theorem b118no (w : World) (pb n : Nat) (hn : ¬ n < 500) (hn2 : n ≤ 500) (h4 : w.cell? ⟨pb, 4, none⟩ = some (.int .i64 n)) :
   Calls Try.prog 76 #[.pointer (some ⟨pb, 0, none⟩)] w fun e w' => e = .returned (.int .i64 12) ∧ w' = w := by
  go_enter Try.func76, Try.ntmps76
  go_wp2
  go_ret
  exact ⟨rfl, rfl⟩
theorem txtQ_at (t : ByteArray) (k : Nat) (h : k < t.size) (st : Pst) : txtF true (t.data.toList.drop k) st = if 2000 ≤ st.out.size then { st with err := 13 } else if true = true ∧ ctxO (st.out ++ byt t[k]) = -1 then { st with out := st.out ++ byt t[k], err := 9 } else txtF true (t.data.toList.drop (k + 1)) { st with out := st.out ++ byt t[k] } := by
  rw [List.drop_eq_getElem_cons (by simpa using h)]; rfl
theorem cells_byt (o : ByteArray) (b : UInt8) : Lib.strCells (o ++ byt b) = Lib.strCells o ++ [.int .u8 b.toNat] := by
  simp [Lib.strCells, byt]
theorem cells_app (o q : ByteArray) : Lib.strCells (o ++ q) = Lib.strCells o ++ Lib.strCells q := by
  simp [Lib.strCells]
theorem byte_cells (w : World) (x : Int) : ∀ (j : Nat) (u : Value), [Value.int .u8 x][j]? = some u → (w.alloc (.cells #[.int .u8 x] 5)).cell? ((⟨w.heap.size, 0, none⟩ : Addr).add j) = some u := by
  intro j u hj
  match j, hj with
  | 0, hj => simp at hj; subst hj; simp [Addr.add]
  | j + 1, hj => simp at hj
theorem byte_one (x : Int) : ∀ u ∈ [Value.int .u8 x], u.oneCell' = true := by
  intro u hu; simp at hu; subst hu; rfl
set_option maxRecDepth 100000 in
set_option maxHeartbeats 4000000 in
theorem b96 (w : World) (p : WrP) (R : List Dat) (st : Pst) (t : ByteArray) (ht : t.size ≤ 1000) (he : st.err = 0) (h : WrOK w p R st) :
   Calls Try.prog 60 #[.pointer (some ⟨p.pb, 0, none⟩), .string t] w (WrPost p R (txtF true t.data.toList st) w) := by
  obtain ⟨i0, hi, hz0, hz1, hzz⟩ := info_parts info5
  have HP := hidS h
  clear h
  go_enter Try.func60, Try.ntmps60
  go_wp2
  go_loopw [5] (fun i wr => ∃ (k : Nat) (s1 : Pst), k ≤ t.size ∧ i = .int .i64 k ∧ s1.err = 0 ∧ Hid (WrOK wr p R s1) ∧ Hid (txtF true t.data.toList st = txtF true (t.data.toList.drop k) s1) ∧ Hid (ChW p w wr)) (fun i _ => t.size - (intOf i).toNat)
  case atStart => exact ⟨0, st, Nat.zero_le _, rfl, he, HP.out, rfl, ChW.refl _ _⟩
  case round =>
    obtain ⟨k, s1, hk, rfl, he1, HW, HF, HC⟩ := hrel
    clear HP
    by_cases hlt : k < t.size
    · have HS := hidS (txtQ_at t k hlt s1)
      obtain ⟨ra, rc, oa, oc, hC⟩ := HW.out
      have c2 := hC.c2
      have c3 := hC.c3
      have f3 := hC.f3
      have hsz := hC.fit.1
      have hpl := hC.lt
      have hcx := hC.ctx
      have hcr := scn_range 0 s1.out.data.toList
      change _ ∧ ctxO s1.out ≤ 23 at hcr
      have HWC := hidS hC
      clear hC
      by_cases hfull : 2000 ≤ s1.out.size
      · have HE : Hid (txtF true t.data.toList st = { s1 with err := 13 }) := by
          show _ = _
          rw [HF.out, HS.out, if_pos hfull]
        go_wp2
        go_ret
        exact wr_stop 13 (by rw [HE.out]) (by decide) HC.out
      · have Hst := hidS (fun wx => c26 (ctxO s1.out) t[k].toNat wx (byte_ge _) (byte_le _) hcx hcr.2)
        have HX := hidS (ctxO_byt s1.out t[k])
        have hXr := stp_range (ctxO s1.out) t[k].toNat
        generalize hcc : ctxO s1.out = cx at *
        have HCC := hidS hcc
        clear hcc
        generalize stp cx t[k].toNat = X at *
        go_wp2_with fail
        go_region_with (first | (go_at_call 32; refine (Hst.out _).mono ?_; rintro e w' ⟨rfl, hw⟩; obtain rfl := hw.symm))
        all_goals
          have hD : Below wr.heap.size wr wr.drew := below_drewN (Below.refl _ _) 1
          have hW2c3 : (wr.setCell ⟨p.pb, 3, none⟩ (.int .i64 X)).drew.cell? ⟨p.pb, 3, none⟩ = some (.int .i64 X) := cellS _ c3
          have HL : Hid (ChW p w (wr.setCell ⟨p.pb, 3, none⟩ (.int .i64 X)).drew) := (HC.out.set 3 _).trans (ChW.of_below (below_drewN (Below.refl _ _) 1))
          by_cases hX : X = -1
          · have HE : Hid (txtF true t.data.toList st = { s1 with out := s1.out ++ byt t[k], err := 9 }) := by
              show _ = _
              rw [HF.out, HS.out, if_neg hfull, if_pos ⟨by trivial, by rw [HX.out]; exact hX⟩]
            subst hX
            go_wp2
            go_ret
            exact wr_stop 9 (by rw [HE.out]) (by decide) HL.out
          · have HE : Hid (txtF true t.data.toList st = txtF true (t.data.toList.drop (k + 1)) { s1 with out := s1.out ++ byt t[k] }) := by
              show _ = _
              rw [HF.out, HS.out, if_neg hfull, if_neg (fun q => hX (by rw [← HX.out]; exact q.2))]
            have hX' : (X == -1) = false := by simpa using hX
            have oO := HWC.out.ownO
            have oO2 : (wr.setCell ⟨p.pb, 3, none⟩ (.int .i64 X)).drew.ownsRow (p.pb + 1) 5 1 (.slice oa s1.out.size oc) s1.out.size (Lib.strCells s1.out) := own_keep oO (fun g hg => set_far wr _ _ _ g (by have := (oO.lt g hg).1; omega))
            have d2 : (wr.setCell ⟨p.pb, 3, none⟩ (.int .i64 X)).drew.cell? ⟨p.pb, 2, none⟩ = some (.slice oa s1.out.size oc) := (cellO wr _ _ _ _ (by decide)).trans c2
            have g2 : (wr.setCell ⟨p.pb, 3, none⟩ (.int .i64 X)).drew.frozen? ⟨p.pb, 2, none⟩ = false := by have := HWC.out.f2; simpa using this
            have hneP : some p.pb ≠ (Value.slice oa s1.out.size oc).ownBlock := fun e => by have := (oO.lt _ e.symm).1; omega
            have hp2 : p.pb < (wr.setCell ⟨p.pb, 3, none⟩ (.int .i64 X)).drew.heap.size := by simpa using hpl
            have HW2 : Hid (∀ k', k' < wr.heap.size → k' ≠ p.pb → (wr.setCell ⟨p.pb, 3, none⟩ (.int .i64 X)).drew.heap[k']? = wr.heap[k']?) := fun k' h1 h2 => set_far wr _ _ _ k' h2
            have HW2o : Hid (∀ j, j ≠ 3 → (wr.setCell ⟨p.pb, 3, none⟩ (.int .i64 X)).drew.cell? ⟨p.pb, j, none⟩ = wr.cell? ⟨p.pb, j, none⟩) := fun j hj => cellO wr _ _ _ _ (Ne.symm hj)
            have HW2f : Hid (∀ j, wr.frozen? ⟨p.pb, j, none⟩ = false → (wr.setCell ⟨p.pb, 3, none⟩ (.int .i64 X)).drew.frozen? ⟨p.pb, j, none⟩ = false) := fun j hj => by simpa using hj
            have HW2s : Hid ((wr.setCell ⟨p.pb, 3, none⟩ (.int .i64 X)).drew.heap.size = wr.heap.size) := by show _ = _; simp
            have HW2e : Hid ((wr.setCell ⟨p.pb, 3, none⟩ (.int .i64 X)).drew.os = wr.os ∧ (wr.setCell ⟨p.pb, 3, none⟩ (.int .i64 X)).drew.tape = wr.tape ∧ (wr.setCell ⟨p.pb, 3, none⟩ (.int .i64 X)).drew.output = wr.output) := ⟨rfl, rfl, rfl⟩
            generalize (wr.setCell ⟨p.pb, 3, none⟩ (.int .i64 X)).drew = w2 at *
            clear c2 c3 f3 HW Hst HS HF hD oO
            have hOs : (s1.out ++ byt t[k]).size = s1.out.size + 1 := by rw [ByteArray.size_append, byt_size]
            go_wp2
            go_region_law (refine step_append_lies _ rfl _ _ 42 rfl (p.pb + 1) 5 i0 (.int .u8 0) 1 1 Try.underlying42 hi hz0 hz1 hzz rfl (by decide) _ _ _ rfl (by first | exact own_keep (oO2.alloc _) (fun _ _ => rfl) | exact own_keep oO2 (fun _ _ => rfl)) ⟨w2.heap.size, 0, none⟩ 1 1 [.int .u8 t[k].toNat] rfl rfl (by exact byte_cells w2 _) (byte_one _) (by decide) (by unfold maxLen; omega) (by omega) (by simp; omega) _ rfl ?_; intro g cap w3 hown3 hg3 hat3 hlt3; have hbk : w3.heap[p.pb]? = w2.heap[p.pb]? := (hg3.block p.pb (by simp; omega) hneP).trans (Below.heap_alloc _ _ _ hp2); have q1 : w3.cell? ⟨p.pb, 2, none⟩ = some (.slice oa s1.out.size oc) := (World.cell?_of_block hbk).trans d2; have p1 : w3.frozen? ⟨p.pb, 2, none⟩ = false := (World.frozen?_of_block hbk).trans g2)
            all_goals
              have hsz3 : wr.heap.size ≤ w3.heap.size := by have := hg3.size; have := HW2s.out; simp at *; omega
              have hput := HWC.out.put (w' := w3.setCell ⟨p.pb, 2, none⟩ (.slice (some ⟨g, 0, none⟩) (s1.out.size + 1) cap)) (oa' := some ⟨g, 0, none⟩) (oc' := cap) (O := s1.out ++ byt t[k])
                (hg3.os.trans HW2e.out.1) (hg3.tape.trans HW2e.out.2.1) (hg3.output.trans HW2e.out.2.2) (by simpa using hsz3)
                (fun q h1 h2 h3 => (set_far w3 _ _ _ q h2).trans (((hg3.block q (by have := HW2s.out; simp; omega) (Ne.symm h3)).trans (Below.heap_alloc _ _ _ (by have := HW2s.out; omega))).trans (HW2.out q h1 h2)))
                ((cellO w3 _ _ _ _ (by decide)).trans ((World.cell?_of_block hbk).trans (HW2o.out 0 (by decide)))) ((cellO w3 _ _ _ _ (by decide)).trans ((World.cell?_of_block hbk).trans (HW2o.out 1 (by decide))))
                (by rw [hOs]; exact cellS _ q1) (by rw [HX.out]; exact (cellO w3 _ _ _ _ (by decide)).trans ((World.cell?_of_block hbk).trans hW2c3)) ((cellO w3 _ _ _ _ (by decide)).trans ((World.cell?_of_block hbk).trans (HW2o.out 4 (by decide))))
                (fun j hj => by have := (World.frozen?_of_block (a := ⟨p.pb, j, none⟩) hbk).trans (HW2f.out j hj); simpa using this)
                (by rw [hOs, cells_byt]; exact own_keep hown3 (fun q hq => set_far w3 _ _ _ q (by have := (hown3.lt q hq).1; omega))) (by rw [hOs]; omega) (by rw [HX.out]; omega)
              have HPUT := hidS hput
              clear hput hown3 hg3 hat3 hbk q1 p1 oO2 d2 g2 hW2c3 HW2 HW2o HW2f HW2e
              generalize w3.setCell ⟨p.pb, 2, none⟩ (.slice (some ⟨g, 0, none⟩) (s1.out.size + 1) cap) = w4 at *
              go_wp2
              exact ⟨⟨k + 1, { s1 with out := s1.out ++ byt t[k] }, by omega, by go_num, he1, ⟨ra, rc, _, _, HPUT.out.1⟩, HE.out, HC.out.trans HPUT.out.2⟩, by simp [intOf]; omega⟩
    · have HE : Hid (txtF true t.data.toList st = s1) := by
        show _ = _
        rw [HF.out, List.drop_eq_nil_of_le (by simp; omega)]; rfl
      go_wp2
      go_ret
      exact wr_ok (by rw [HE.out]; exact he1) (by rw [HE.out]; exact HW.out) HC.out
end Go.Proofs.Ytffkejkgkgfnhaa
namespace Go.Proofs.Ytffkejkgkgfnhaa
open Go.RowKit
set_option linter.unusedVariables false
set_option maxRecDepth 100000 in
set_option maxHeartbeats 2000000 in
theorem b120 (w : World) (p : WrP) (R : List Dat) (st : Pst) (nm : ByteArray) (hR : R.length ≤ 1000) (h : WrOK w p R st) :
   Calls Try.prog 78 #[.pointer (some ⟨p.pb, 0, none⟩), .string nm] w fun e w' => FldQ w p.N nm R e ∧ Below w.heap.size w w' := by
  obtain ⟨ra, rc, oa, oc, hC⟩ := h
  have HP := hidS hC
  have c1 := hC.c1
  have hlt := hC.lt
  have hNl := hC.le
  clear hC
  go_enter Try.func78, Try.ntmps78
  go_wp2
  go_loop [6, 7, 8] (fun i _ _ => ∃ k : Nat, k ≤ R.length ∧ i = .int .i64 ((k : Int) - 1) ∧ Hid (lkp nm R = lkp nm (R.take k))) (fun i _ _ => (intOf i + 1).toNat)
  case atStart => exact ⟨R.length, Nat.le_refl _, rfl, by rw [List.take_length]; exact rfl⟩
  case round =>
    obtain ⟨k, hk, rfl, H⟩ := hrel
    cases k with
    | zero =>
      have HF : Hid (lkp nm R = none) := by show _ = _; rw [H.out]; rfl
      go_wp2
      refine bodyPost_ret (v := .tuple #[.agg #[.string ⟨#[]⟩, .bool false, .string ⟨#[]⟩, .slice none 0 0], .bool false]) (by simp [results, Try.results78, go_sem]) rfl ⟨.inl ⟨HF.out, rfl⟩, ?_⟩
      first | exact Below.refl _ _ | exact (Below.refl _ _).alloc (Nat.le_refl _) _
    | succ k =>
      obtain ⟨g, rfl, hrc, a, c, hcell, hV, hok, hbulk, hlc, hcm⟩ := HP.out.rowAt k (by omega)
      have HS := hidS (lkp_at nm R k (by omega))
      have hg : g < w.heap.size := by
        obtain ⟨xs, o1, _⟩ := HP.out.ownR
        exact (o1.lt g rfl).2
      have HV := hidS hV
      have HO := hidS hok
      have HBk := hidS hbulk
      have hfl : R[k].len ≤ maxLen := Nat.le_trans hlc hcm
      unfold maxLen at hfl
      clear hV hok hbulk
      generalize hD : R[k] = D at *
      have HD := hidS hD
      clear hD
      go_wp2
      go_loop [8] (fun i => ∃ j : Nat, j ≤ D.len ∧ i = .int .i64 j ∧ Hid (D.fnd nm = (D.drop j).fnd nm)) (fun i => D.len - (intOf i).toNat)
      case atStart => exact ⟨0, Nat.zero_le _, rfl, by rw [Dat.drop_zero]; exact rfl⟩
      case round =>
        obtain ⟨j, hj, rfl, H2⟩ := hrel
        by_cases hjl : j < D.len
        · rcases HV.out with h0 | ⟨b, off, rfl, hb, hat⟩
          · omega
          · obtain ⟨n, li, tx, rows, e1, e2, e3, k0, k1, k2, a3, c3, k3, k4, k5, k6⟩ := DatAt.field D b off j HO.out hjl hat
            have hbl : b < w.heap.size := by omega
            have hE := Dat.fnd_at nm e1
            have HK6 := hidS k6
            have HE2 := hidS e2
            have HBB : Hid (rows.fits ∧ tx.size ≤ maxLen) := by
              have q := Dat.fits_drop D j HBk.out
              rw [e1] at q
              exact ⟨q.2.1, q.1⟩
            clear hat k6 e2 e3 e1
            cases hB : nmEq n nm
            · have HF : Hid (D.fnd nm = (D.drop (j + 1)).fnd nm) := by show _ = _; rw [H2.out, hE, hB]; rfl
              unfold nmEq at hB
              clear hE H2 k1 k2 k3
              go_wp2
              go_round
              case rel => exact ⟨j + 1, by omega, by go_num, HF.out⟩
              case measure => simp [intOf]; omega
            · have HF : Hid (lkp nm R = some (n, li, tx, rows)) := by
                show _ = _
                rw [H.out, HS.out, H2.out, hE, hB]; rfl
              unfold nmEq at hB
              generalize hrl : rows.len = rl at *
              have HRL := hidS hrl
              clear hE H2 hrl
              go_wp2
              refine bodyPost_ret (v := .tuple #[.agg #[.string n, .bool li, .string tx, .slice a3 rl c3], .bool true]) (by simp [results, Try.results78, go_sem]) rfl ⟨.inr ⟨n, li, tx, rows, a3, c3, HF.out, by rw [HRL.out], HK6.out, HE2.out, HBB.out, by rw [HRL.out]; exact k4, k5⟩, ?_⟩
              first | exact Below.refl _ _ | exact (Below.refl _ _).alloc (Nat.le_refl _) _
        · have HF : Hid (lkp nm R = lkp nm (R.take k)) := by
            show _ = _
            rw [H.out, HS.out, H2.out, Dat.drop_end D j (by omega)]; rfl
          go_wp2
          go_round
          case rel => exact ⟨k, by omega, by go_num, HF.out⟩
          case measure => simp [intOf]
set_option maxRecDepth 100000 in
set_option maxHeartbeats 1000000 in
theorem b134 (w : World) (n t : ByteArray) (l : Bool) (a : Option Addr) (rows : Dat) (c : Nat) (hlc : rows.len ≤ c) (hcm : c ≤ maxLen) :
   Calls Try.prog 96 #[.agg #[.string n, .bool l, .string t, .slice a rows.len c]] w fun e w' => e = .returned (.bool (yesF l t rows)) ∧ Below w.heap.size w w' := by
  unfold maxLen at hcm
  cases l
  · have hy : yesF false t rows = decide (0 < t.size) := rfl
    have hne : t.toList.isEmpty = decide (t.size = 0) := by
      have h : t.toList = t.data.toList := ByteArray.toList_eq t
      rw [h]
      cases t with | mk d => cases d with | mk l => cases l <;> simp [ByteArray.size]
    by_cases h0 : t.size = 0
    · have hne2 : t.toList.isEmpty = true := by rw [hne]; exact decide_eq_true h0
      have hy2 : yesF false t rows = false := by rw [hy]; exact decide_eq_false (by omega)
      rw [hy2]
      clear hne hy hy2
      generalize rows.len = rl at *
      go_enter Try.func96, Try.ntmps96
      go_wp2
      go_ret
      exact ⟨ret_bool (by simp), by first | exact Below.refl _ _ | exact (Below.refl _ _).alloc (Nat.le_refl _) _⟩
    · have hne2 : t.toList.isEmpty = false := by rw [hne]; exact decide_eq_false h0
      have hy2 : yesF false t rows = true := by rw [hy]; exact decide_eq_true (by omega)
      rw [hy2]
      clear hne hy hy2
      generalize rows.len = rl at *
      go_enter Try.func96, Try.ntmps96
      go_wp2
      go_ret
      exact ⟨ret_bool (by simp), by first | exact Below.refl _ _ | exact (Below.refl _ _).alloc (Nat.le_refl _) _⟩
  · have hy : yesF true t rows = decide (0 < rows.len) := rfl
    rw [hy]
    clear hy
    generalize rows.len = rl at *
    go_enter Try.func96, Try.ntmps96
    go_wp2
    go_ret
    exact ⟨ret_bool (by simp), by first | exact Below.refl _ _ | exact (Below.refl _ _).alloc (Nat.le_refl _) _⟩
end Go.Proofs.Ytffkejkgkgfnhaa
