import Derived.Test.YtffkejkgkgfnhabG28
namespace Go.Proofs.Ytffkejkgkgfnhab
open Go.RowKit
set_option linter.unusedVariables false
theorem scl_rep (k : Nat) (u : UInt8) (h : stp 0 u.toNat = 0) : scl 0 (List.replicate k u) = 0 := by
  induction k with
  | zero => rfl
  | succ k ih =>
    rw [List.replicate_succ]
    show scl (stp 0 u.toNat) _ = 0
    rw [h]; exact ih
def fSr (k : Nat) : Sr := if k = 0 then .hole [120] .nil else .text (List.replicate k 121) (.hole [120] .nil)
theorem f_out (k : Nat) : (fSr k).out = List.replicate k 121 ++ [123, 120, 125] := by
  unfold fSr; split
  · rename_i h; subst h; rfl
  · rfl
def fTs (k : Nat) : List Tm := [tmTm [97] (fSr k) 0]
theorem f_fnd (k : Nat) : fndF (mkB [97]) (fTs k) 0 = 0 := by simp [fTs, fndF, tmTm, nmEq_mkB]
theorem f_tno (k : Nat) : tno (fTs k) (mkB [97]) = 0 := by simp [tno, f_fnd]
theorem f_ok (k : Nat) : (fSr k).ok 0 := by
  unfold fSr; split
  · exact ⟨nmL_one 120 (by decide), trivial⟩
  · rename_i h
    refine ⟨⟨?_, ?_⟩, rfl, nmL_one 120 (by decide), trivial⟩
    · intro e; have := congrArg List.length e; simp at this; exact h this
    · intro u hu; rw [List.mem_replicate] at hu; rw [hu.2]; decide
theorem f_reads (k : Nat) (hk : k ≤ 300) : Reads (mkB (tmOut [97] (fSr k))) (fTs k) := by
  refine reads_one (nmL_one 97 (by decide)) (f_ok k) ?_ ?_
  · simp [tmOut, f_out]; omega
  · unfold fSr; split <;> simp [Sr.nds, unk]
theorem f_nds (k : Nat) : (fSr k).nds 4 = if k = 0 then .cons 2 4 (mkB [120]) .nil .nil false .nil else .cons 1 4 (mkB (List.replicate k 121)) .nil .nil false (.cons 2 ((4 + k : Nat) : Int) (mkB [120]) .nil .nil false .nil) := by
  unfold fSr; split
  · rfl
  · simp [Sr.nds]
theorem f_walk (k : Nat) : ∃ L, WSpec (fTs k) (mkB [97]) 0 L := by
  refine ⟨_, wspec_one (fTs k) (mkB [97]) ⟨0, [(4 + k, 0)], []⟩ (by rw [f_fnd]; decide) ?_ rfl (by simp [Srt]) (by simp)⟩
  rw [f_tno]
  show walkF C0 (fTs k) ((fSr k).nds 4) 0 = _
  rw [f_nds]
  split
  · rename_i h; subst h; rfl
  · have e : scn 0 (mkB (List.replicate k 121)).data.toList = 0 := by rw [mkB_list, scn_in _ _ (by decide) (by decide)]; exact scl_rep k 121 (by decide)
    simp only [walkF, pieceW, seqW]
    simp [e, show opS 0 = true by decide]
    omega
theorem es_rep (j : Nat) : esT (mkB (List.replicate j 122)) = List.replicate j 122 := by
  unfold esT
  rw [mkB_list]
  have : ∀ j, mid 0 (List.replicate j (122 : UInt8)) = List.replicate j 122 := by
    intro j
    induction j with
    | zero => rfl
    | succ j ih => simp only [List.replicate_succ, mid, List.flatMap_cons] at ih ⊢; rw [ih]; rfl
  have e : escL 0 (List.replicate j (122 : UInt8)) = List.replicate j 122 := by simp [escL, acc, pre, this]
  rw [e]
  simp [btsW]
def fDat (t : ByteArray) : Dat := fldD [120] t .nil
theorem f_page (k : Nat) (t : ByteArray) : ppg (fTs k) 1 (bod (fTs k) 0) [fDat t] 0 = some ⟨List.replicate k 121 ++ esT t, 1, 0⟩ := by
  have hl : lkp (mkB [120]) [fDat t] = some (mkB [120], false, t, .nil) := by rw [lkp_one]; simp [fDat, fldD, Dat.fnd, nm_self]
  show bdyP (ppg (fTs k) 0) (fTs k) [fDat t] ((fSr k).nds 4) 0 = _
  rw [f_nds]
  split
  · rename_i h; subst h
    simp only [bdyP, insP, hl]
    simp [fldP, seqP, addK, esT, show opB 0 = true by decide]
  · have e : txtP (mkB (List.replicate k 121)) 0 = some ⟨List.replicate k 121, 0, 0⟩ := by
      unfold txtP
      rw [mkB_list, scl_rep k 121 (by decide), if_neg (by decide)]
    simp only [bdyP, insP, hl, if_true, e]
    simp [fldP, seqP, addK, esT, show opB 0 = true by decide]
def aSr : Sr := .call [98] (.text [60, 105, 32, 116, 61, 34] (.call [98] (.text [34, 62] .nil)))
def bSr : Sr := .hole [120] .nil
def caOut : List UInt8 := tmOut [97] aSr ++ tmOut [98] bSr
def caTs : List Tm := [tmTm [97] aSr 0, tmTm [98] bSr 23]
theorem c_reads : Reads (mkB caOut) caTs := by
  have hp : Pre (mkB caOut) 0 (tmOut [97] aSr ++ tmOut [98] bSr) := pre_all _
  obtain ⟨A, hA⟩ := TFlat.nil.more (s := mkB caOut) (by simp) (nmL_one 97 (by decide)) (x := aSr) ⟨nmL_one 98 (by decide), ⟨by decide, by decide⟩, rfl, nmL_one 98 (by decide), ⟨by decide, by decide⟩, rfl, trivial⟩ hp
  have hp2 : Pre (mkB caOut) (0 + (tmOut [97] aSr).length) (tmOut [98] bSr ++ []) := by rw [List.append_nil]; exact hp.right
  obtain ⟨A', hA'⟩ := hA.more (by simp) (nmL_one 98 (by decide)) (x := bSr) ⟨nmL_one 120 (by decide), trivial⟩ hp2
  have e : 0 + (tmOut [97] aSr).length + (tmOut [98] bSr).length = (mkB caOut).size := by rw [mkB_size]; simp [caOut]
  rw [e] at hA'
  have e2 : [] ++ [tmTm [97] aSr 0] ++ [tmTm [98] bSr (0 + (tmOut [97] aSr).length)] = caTs := rfl
  rw [e2] at hA'
  have fa : fndF (mkB [97]) caTs 0 = 0 := by simp [caTs, fndF, tmTm, nmEq_mkB]
  have fb : fndF (mkB [98]) caTs 0 = 1 := by simp [caTs, fndF, tmTm, nmEq_mkB]
  refine reads_of hA' (by rw [mkB_size]; decide) (by rw [mkB_size]; decide) ?_ ?_
  · simp only [caTs, twF]
    rw [show (tmTm [97] aSr 0).name = mkB [97] from rfl, show (tmTm [98] bSr 23).name = mkB [98] from rfl]
    change (if fndF (mkB [97]) caTs 0 < (0 : Nat) then _ else if fndF (mkB [98]) caTs 0 < (1 : Nat) then _ else _) = _
    rw [fa, fb]; decide
  · show unF caTs caTs < 0
    have ua : unk caTs (tmTm [97] aSr 0).body < 0 := by
      show unk caTs (aSr.nds 4) < 0
      simp [aSr, Sr.nds, unk, fb]
    have ub : unk caTs (tmTm [98] bSr 23).body < 0 := by
      show unk caTs (bSr.nds 27) < 0
      simp [bSr, Sr.nds, unk]
    have : unF caTs caTs = -1 := by
      show (if 0 ≤ unk caTs (tmTm [97] aSr 0).body then _ else if 0 ≤ unk caTs (tmTm [98] bSr 23).body then _ else _) = _
      rw [if_neg (by omega), if_neg (by omega)]; rfl
    omega
def caC : Nat → Nat → Option Nat := fun t x => if t = 0 ∧ x = 0 then some 0 else if t = 1 ∧ x = 0 then some 0 else if t = 1 ∧ x = 15 then some 15 else none
theorem ca_fa : fndF (mkB [97]) caTs 0 = 0 := by simp [caTs, fndF, tmTm, nmEq_mkB]
theorem ca_fb : fndF (mkB [98]) caTs 0 = 1 := by simp [caTs, fndF, tmTm, nmEq_mkB]
theorem ca_ta : tno caTs (mkB [97]) = 0 := by simp [tno, ca_fa]
theorem ca_tb : tno caTs (mkB [98]) = 1 := by simp [tno, ca_fb]
theorem ca_wb (C : Nat → Nat → Option Nat) (x : Nat) (h : opS x = true) : walkF C caTs (bod caTs 1) x = some ⟨x, [(27, x)], []⟩ := by
  show walkF C caTs (bSr.nds 27) x = _
  simp only [bSr, Sr.nds, walkF, pieceW, seqW]
  simp [h]
theorem ca_wa (C : Nat → Nat → Option Nat) (h0 : C 1 0 = some 0) (h1 : C 1 15 = some 15) : walkF C caTs (bod caTs 0) 0 = some ⟨0, [], [(1, 0), (1, 15)]⟩ := by
  show walkF C caTs (aSr.nds 4) 0 = _
  have e1 : scn ((0 : Nat) : Int) (mkB [60, 105, 32, 116, 61, 34]).data.toList = 15 := rfl
  have e2 : scn ((15 : Nat) : Int) (mkB [34, 62]).data.toList = 0 := rfl
  have e3 : scn (15 : Int) (mkB [34, 62]).data.toList = 0 := rfl
  have e4 : scn (0 : Int) (mkB [60, 105, 32, 116, 61, 34]).data.toList = 15 := rfl
  simp only [aSr, Sr.nds, walkF, pieceW, seqW, ca_tb]
  simp [h0, h1, e3, e4]
theorem ca_closed : Closed caTs 0 (fun t x => ∃ y, caC t x = some y) (EnC caC) ∧ ¬ TBad caTs 0 := by
  refine not_bad caC caTs 0 rfl (fun t x y h => ?_)
  unfold caC at h
  split at h
  · rename_i e; cases h; obtain ⟨rfl, rfl⟩ := e
    refine ⟨_, ca_wa caC rfl rfl, rfl, fun q hq => ?_⟩
    simp at hq
    rcases hq with rfl | rfl
    · exact ⟨0, rfl⟩
    · exact ⟨15, rfl⟩
  · split at h
    · rename_i e; cases h; obtain ⟨rfl, rfl⟩ := e
      exact ⟨_, ca_wb caC 0 (by decide), rfl, fun q hq => by cases hq⟩
    · split at h
      · rename_i e; cases h; obtain ⟨rfl, rfl⟩ := e
        exact ⟨_, ca_wb caC 15 (by decide), rfl, fun q hq => by cases hq⟩
      · cases h
theorem ca_walk : WSpec caTs (mkB [97]) 0 [(27, 0), (27, 15)] := by
  obtain ⟨cl, hb⟩ := ca_closed
  have tc := true_closed caTs 0
  rw [WSpec, ca_ta]
  refine .inr ⟨by rw [ca_fa]; decide, .inr ⟨hb, rfl, by simp [Srt], fun p => ⟨fun hp => ?_, fun ⟨_, t, x, hB, he⟩ => ?_⟩⟩⟩
  · have e0 : bod caTs 0 = .cons 5 4 (mkB [98]) .nil .nil false (.cons 1 8 (mkB [60, 105, 32, 116, 61, 34]) .nil .nil false (.cons 5 14 (mkB [98]) .nil .nil false (.cons 1 18 (mkB [34, 62]) .nil .nil false .nil))) := rfl
    have e1 : bod caTs 1 = .cons 2 27 (mkB [120]) .nil .nil false .nil := rfl
    have use : ∀ x, opS x = true → evt caTs (Es caTs 0) (bod caTs 1) (one x) (.use 27 x) := fun x hx => by
      rw [e1]
      exact .inr (.inl (by simp only [pevt, show ¬ ((2 : Int) = 1) by decide, if_false, if_true]; exact ⟨x, rfl, by rw [if_pos hx]; rfl⟩))
    have ends : ∀ x, Bs caTs 0 1 x → Es caTs 0 1 x x := fun x hB => tc.ends 1 x x hB (by rw [e1]; simp only [sem, psem, show ¬ ((2 : Int) = 1) by decide, if_false, if_true]; rfl)
    have b0 : Bs caTs 0 1 0 := tc.calls 0 0 1 0 tc.start (by
      rw [e0]
      refine .inr (.inl ?_)
      simp only [pevt, show ¬ ((5 : Int) = 1) by decide, show ¬ ((5 : Int) = 2) by decide, show ¬ ((5 : Int) = 3) by decide, show ¬ ((5 : Int) = 4) by decide, if_false]
      exact ⟨0, rfl, by rw [ca_tb]⟩)
    have b15 : Bs caTs 0 1 15 := tc.calls 0 0 1 15 tc.start (by
      rw [e0]
      refine .inr (.inr (.inr (.inr (.inr (.inl ?_)))))
      simp only [pevt, psem, show ¬ ((5 : Int) = 1) by decide, show ¬ ((5 : Int) = 2) by decide, show ¬ ((5 : Int) = 3) by decide, show ¬ ((5 : Int) = 4) by decide, if_false, if_true]
      exact ⟨15, ⟨0, ⟨0, rfl, by rw [ca_tb]; exact ends 0 b0⟩, rfl⟩, by rw [ca_tb]⟩)
    simp at hp
    rcases hp with rfl | rfl
    · exact ⟨by decide, 1, 0, b0, use 0 (by decide)⟩
    · exact ⟨by decide, 1, 15, b15, use 15 (by decide)⟩
  · obtain ⟨y, hy⟩ := hB _ _ cl
    have he' := evt_mono (fun t x y k => Es_le cl t x y k) _ _ _ _ (fun _ q => q) he
    unfold caC at hy
    split at hy
    · rename_i e; obtain ⟨rfl, rfl⟩ := e
      have := ((walk_ok caC caTs _ 0 _ (ca_wa caC rfl rfl)).use p.1 p.2).1 he'
      cases this
    · split at hy
      · rename_i e; obtain ⟨rfl, rfl⟩ := e
        have := ((walk_ok caC caTs _ 0 _ (ca_wb caC 0 (by decide))).use p.1 p.2).1 he'
        simp at this; simp [Prod.ext_iff, this]
      · split at hy
        · rename_i e; obtain ⟨rfl, rfl⟩ := e
          have := ((walk_ok caC caTs _ 15 _ (ca_wb caC 15 (by decide))).use p.1 p.2).1 he'
          simp at this; simp [Prod.ext_iff, this]
        · cases hy
def esV (t : ByteArray) : List UInt8 := btsW (escL 15 t.data.toList)
theorem ca_page (t : ByteArray) : ppg caTs 2 (bod caTs 0) [fDat t] 0 = some ⟨esT t ++ ([60, 105, 32, 116, 61, 34] ++ (esV t ++ [34, 62])), 4, 0⟩ := by
  have hl : lkp (mkB [120]) [fDat t] = some (mkB [120], false, t, .nil) := by rw [lkp_one]; simp [fDat, fldD, Dat.fnd, nm_self]
  have r0 : ppg caTs 1 (bod caTs 1) [fDat t] 0 = some ⟨esT t, 1, 0⟩ := by
    show bdyP (ppg caTs 0) caTs [fDat t] (bSr.nds 27) 0 = _
    simp only [bSr, Sr.nds, bdyP, insP, hl]
    simp [fldP, seqP, addK, esT, show opB 0 = true by decide]
  have r1 : ppg caTs 1 (bod caTs 1) [fDat t] 15 = some ⟨esV t, 1, 15⟩ := by
    show bdyP (ppg caTs 0) caTs [fDat t] (bSr.nds 27) 15 = _
    simp only [bSr, Sr.nds, bdyP, insP, hl]
    simp [fldP, seqP, addK, esV, show opB 15 = true by decide]
  have e1 : txtP (mkB [60, 105, 32, 116, 61, 34]) 0 = some ⟨[60, 105, 32, 116, 61, 34], 0, 15⟩ := rfl
  have e2 : txtP (mkB [34, 62]) 15 = some ⟨[34, 62], 0, 0⟩ := rfl
  show bdyP (ppg caTs 1) caTs [fDat t] (aSr.nds 4) 0 = _
  simp only [aSr, Sr.nds, bdyP, insP, if_true, ca_tb]
  simp [seqP, addK, r0, r1, e1, e2]
end Go.Proofs.Ytffkejkgkgfnhab
namespace Go.Proofs.Ytffkejkgkgfnhab
open Go.RowKit
set_option linter.unusedVariables false
set_option maxRecDepth 100000 in
set_option maxHeartbeats 2000000 in
theorem q10 (w : World) (u : UInt8) (n : Nat) (hn : n ≤ 5000) : Calls Try.prog 12 #[.string (mkB [u]), .int .i64 n] w fun e w' => e = .returned (.string (mkB (List.replicate n u))) ∧ w' = w := by
  have hu : (mkB [u]).size = 1 := rfl
  generalize hU : mkB [u] = U at *
  have HU := hidS hU
  clear hU
  go_enter Try.func12, Try.ntmps12
  go_wp2
  go_loop [5, 6] (fun ov iv => ∃ k : Nat, k ≤ n ∧ iv = .int .i64 k ∧ ov = .string (mkB (List.replicate k u))) (fun _ iv => n - (intOf iv).toNat)
  case atStart => exact ⟨0, Nat.zero_le _, rfl, rfl⟩
  case round =>
    obtain ⟨k, hk, rfl, rfl⟩ := hrel
    have hsz := mkB_size (List.replicate k u)
    rw [List.length_replicate] at hsz
    have HN : Hid (mkB (List.replicate k u) ++ U = mkB (List.replicate (k + 1) u)) := by
      show _ = _
      rw [← HU.out, ← mkB_app, List.replicate_succ']
    generalize hM : mkB (List.replicate k u) = M at *
    have HM := hidS hM
    clear hM
    by_cases hlt : k < n
    · go_wp2
      go_round
      case rel => exact ⟨k + 1, by omega, by go_num, by rw [HN.out]⟩
      case measure => simp [intOf]; omega
    · have HE : Hid (k = n) := by show _ = _; omega
      go_wp2
      go_ret
      exact ⟨by rw [← HE.out, HM.out]; rfl, rfl⟩
set_option maxRecDepth 100000 in
set_option maxHeartbeats 2000000 in
theorem q5 (w : World) (c : Int) (n : Nat) (hc : -9223372036854775808 ≤ c ∧ c ≤ 9223372036854775807) (hn : 0 < n) (hn2 : n ≤ 1000) : Calls Try.prog 7 #[.int .i64 c, .int .i64 n] w fun e w' => (∃ r : Nat, r < n ∧ e = .returned (.int .i64 r)) ∧ w' = w := by
  by_cases h : c < 0
  · have hr : ∃ r : Nat, r < n ∧ (-(c + 1)).tmod (n : Int) = r := by
      rw [Int.tmod_eq_emod_of_nonneg (by omega)]
      have h1 := Int.emod_nonneg (-(c + 1)) (show (n : Int) ≠ 0 by omega)
      have h2 := Int.emod_lt_of_pos (-(c + 1)) (show (0 : Int) < n by omega)
      exact ⟨((-(c + 1)) % (n : Int)).toNat, by omega, by omega⟩
    obtain ⟨r, hr1, hr2⟩ := hr
    go_enter Try.func7, Try.ntmps7
    go_wp2
    go_ret
    exact ⟨⟨r, hr1, rfl⟩, rfl⟩
  · have hr : ∃ r : Nat, r < n ∧ c.tmod (n : Int) = r := by
      rw [Int.tmod_eq_emod_of_nonneg (by omega)]
      have h1 := Int.emod_nonneg c (show (n : Int) ≠ 0 by omega)
      have h2 := Int.emod_lt_of_pos c (show (0 : Int) < n by omega)
      exact ⟨(c % (n : Int)).toNat, by omega, by omega⟩
    obtain ⟨r, hr1, hr2⟩ := hr
    go_enter Try.func7, Try.ntmps7
    go_wp2
    go_ret
    exact ⟨⟨r, hr1, rfl⟩, rfl⟩
theorem f_src (k : Nat) : (mkB [123, 43, 97, 125] ++ (mkB (List.replicate k 121) ++ ⟨#[123, 120, 125]⟩) ++ mkB [123, 45, 125] : ByteArray) = mkB (tmOut [97] (fSr k)) := by
  have h1 : (⟨#[123, 120, 125]⟩ : ByteArray) = mkB [123, 120, 125] := rfl
  rw [h1]
  simp only [← mkB_app]
  congr 1
  simp [tmOut, f_out]
theorem f_dat {w2 w3 : World} (t : ByteArray) {ty : Nat} (hb3 : Below (w2.alloc (.cells #[.string ⟨#[120]⟩, .bool false, .string t, .slice none 0 0] ty)).heap.size (w2.alloc (.cells #[.string ⟨#[120]⟩, .bool false, .string t, .slice none 0 0] ty)) w3) : DatV w3 w3.heap.size (some ⟨w2.heap.size, 0, none⟩) (fDat t) := by
  have hz3 : w2.heap.size < w3.heap.size := by have := hb3.size; simp at this; omega
  have f0 : w3.cell? ⟨w2.heap.size, 0, none⟩ = some (.string ⟨#[120]⟩) := (hb3.cell (p := ⟨w2.heap.size, 0, none⟩) (by show w2.heap.size < _; simp)).trans (by simp)
  have f1 : w3.cell? ⟨w2.heap.size, 1, none⟩ = some (.bool false) := (hb3.cell (p := ⟨w2.heap.size, 1, none⟩) (by show w2.heap.size < _; simp)).trans (by simp)
  have f2 : w3.cell? ⟨w2.heap.size, 2, none⟩ = some (.string t) := (hb3.cell (p := ⟨w2.heap.size, 2, none⟩) (by show w2.heap.size < _; simp)).trans (by simp)
  have f3 : w3.cell? ⟨w2.heap.size, 3, none⟩ = some (.slice none 0 0) := (hb3.cell (p := ⟨w2.heap.size, 3, none⟩) (by show w2.heap.size < _; simp)).trans (by simp)
  exact .inr ⟨w2.heap.size, 0, rfl, hz3, f0, f1, f2, ⟨none, 0, f3, Nat.le_refl _, Nat.zero_le _, .inl rfl⟩, trivial⟩
set_option maxRecDepth 100000 in
set_option maxHeartbeats 4000000 in
theorem q4 (hR : PROK 13) (w : World) (c d : Int) (hc : -9223372036854775808 ≤ c ∧ c ≤ 9223372036854775807) (hd : -9223372036854775808 ≤ d ∧ d ≤ 9223372036854775807) : Calls Try.prog 4 #[.int .i64 c, .int .i64 d] w fun e w' => e = .returned (.bool true) ∧ Below w.heap.size w w' := by
  have Hc := hidS (fun w' => q5 w' c 40 hc (by decide) (by decide))
  have Hd := hidS (fun w' => q5 w' d 100 hd (by decide) (by decide))
  have HR := hidS hR
  clear hR
  go_enter Try.func4, Try.ntmps4
  go_wp2_with fail
  refine (Hc.out _).mono ?_
  rintro e w' ⟨⟨r, hr, rfl⟩, hw⟩
  obtain rfl := hw.symm
  clear Hc
  go_wp2_with fail
  refine (Hd.out _).mono ?_
  rintro e w' ⟨⟨k, hk, rfl⟩, hw⟩
  obtain rfl := hw.symm
  clear Hd
  have Hy := hidS (fun w' => q10 w' 121 k (by omega))
  have HRD := hidS (f_reads k (by omega))
  have Hp := hidS (fun w' (h : _) => q17 w' (mkB (List.replicate k 121) ++ ⟨#[123, 120, 125]⟩) h)
  rw [f_src] at Hp
  have hyl : (mkB (List.replicate k 121)).size = k := by rw [mkB_size]; simp
  obtain ⟨j, hj⟩ : ∃ j : Nat, (1980 : Int) + r - k = j := ⟨1980 + r - k, by omega⟩
  have Hz := hidS (fun w' => q10 w' 122 j (by omega))
  have hzl : (mkB (List.replicate j 122)).size = j := by rw [mkB_size]; simp
  have HG := hidS (wspec_good (f_walk k).choose_spec)
  have HPg := hidS (f_page k (mkB (List.replicate j 122)))
  rw [es_rep] at HPg
  have hsz : (mkB (tmOut [97] (fSr k))).size ≤ maxLen := by obtain ⟨A, _, q, _⟩ := HRD.out; unfold maxLen; omega
  have HRen := hidS (fun (way : Int) (o : ByteArray) (x : Int) (hw : way = 0 ∨ way = 1) (h : RenS (mkB (tmOut [97] (fSr k))) (mkB [97]) way (fDat (mkB (List.replicate j 122))) o x) => page_law (m := 1) HRD.out (by rw [f_fnd]; decide) (hw.imp id (fun e => ⟨e, HG.out⟩)) (by rw [f_tno]; exact HPg.out) rfl h)
  simp only [mkB_app] at HRen
  generalize hY : mkB (List.replicate k 121) = Y at *
  generalize hZ : mkB (List.replicate j 122) = Z at *
  generalize hS : mkB (tmOut [97] (fSr k)) = S at *
  have HY := hidS hY
  have HZ := hidS hZ
  clear hY hZ hS HRD HG HPg
  have hjj := hj
  go_wp2_with fail
  refine (Hy.out _).mono ?_
  rintro e w' ⟨rfl, hw⟩
  obtain rfl := hw.symm
  go_wp2_with fail
  refine (Hp.out _ (by rw [ByteArray.size_append]; have : (⟨#[123, 120, 125]⟩ : ByteArray).size = 3 := rfl; omega)).mono ?_
  rintro e w' ⟨rfl, hw⟩
  obtain rfl := hw.symm
  clear Hp
  go_wp2_with fail
  refine (Hz.out _).mono ?_
  rintro e w' ⟨rfl, hw⟩
  obtain rfl := hw.symm
  go_wp2_with fail
  refine (q19 _ _ _).mono ?_
  rintro e w2 ⟨rfl, hb2⟩
  have HW2 := hidS hb2
  clear hb2
  go_wp2_with fail
  refine (q18 _ _ _ _).mono ?_
  rintro e w3 ⟨rfl, hb3⟩
  have HV := hidS (f_dat Z hb3)
  have HW3 : Hid (Below w.heap.size w w3) := (HW2.out.alloc HW2.out.size _).trans (hb3.mono (by simp; have := HW2.out.size; omega))
  clear hb3
  generalize w2.heap.size = g1 at *
  have Hb := hidS (fun (w' : World) (hb : Below w3.heap.size w3 w') => q21 HR.out w' S (Y ++ Z) (some ⟨g1, 0, none⟩) (fDat Z) 1 hsz (DatV.mono HV.out hb.size (fun q hq => hb.block q hq)) ⟨trivial, trivial⟩ (by show 1 + Z.size + 0 + 0 + 5 ≤ _; omega) (by show 1 ≤ 1; decide) (by unfold maxLen; omega) (by rw [ByteArray.size_append]; unfold maxLen; omega) (fun way o x hw h => by
    have := HRen.out way o x hw h
    simp only [List.length_append, List.length_replicate] at this
    rw [ByteArray.size_append, hyl, hzl]
    have e : mkB (List.replicate k 121) ++ mkB (List.replicate j 122) = Y ++ Z := by rw [HY.out, HZ.out]
    refine ⟨fun q => ?_, fun q => this.2.1 (by decide) q⟩
    have t1 := this.1 (by decide) q
    exact ⟨t1.1, by rw [t1.2]; all_goals first | exact e | (rw [mkB_app]; exact e)⟩))
  clear HRen
  go_wp2_with fail
  refine (Hy.out _).mono ?_
  rintro e w' ⟨rfl, hw⟩
  obtain rfl := hw.symm
  go_wp2_with fail
  refine (Hz.out _).mono ?_
  rintro e w' ⟨rfl, hw⟩
  obtain rfl := hw.symm
  go_wp2_with fail
  refine (Hb.out _ (Below.refl _ _)).mono ?_
  rintro e w4 ⟨rfl, hb4⟩
  have HW4 : Hid (Below w.heap.size w w4) := HW3.out.trans (hb4.mono HW3.out.size)
  clear hb4
  go_wp2
  go_ret
  exact ⟨rfl, HW4.out⟩
end Go.Proofs.Ytffkejkgkgfnhab
