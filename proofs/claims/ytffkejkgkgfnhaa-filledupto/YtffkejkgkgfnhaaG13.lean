import Derived.Test.YtffkejkgkgfnhaaG09
namespace Go.Proofs.Ytffkejkgkgfnhaa
open Go.RowKit
set_option linter.unusedVariables false
set_option maxHeartbeats 400000 in
theorem c106 (b : Int) (w : World) (h0 : 0 ≤ b) (h1 : b ≤ 255) : Calls Try.prog 98 #[.int .u8 b] w fun e w' => e = .returned (.bool (az b)) ∧ w' = w := by
  go_enter Try.func98, Try.ntmps98
  go_wp2
  all_goals go_ret
  all_goals refine ⟨retS_bool ?_, rfl⟩
  all_goals grind (splits := 40) [az]
set_option maxHeartbeats 400000 in
theorem c90 (b : Int) (w : World) (h0 : 0 ≤ b) (h1 : b ≤ 255) : Calls Try.prog 83 #[.int .u8 b] w fun e w' => e = .returned (.int .i64 (kindO b)) ∧ w' = w := by
  go_enter Try.func83, Try.ntmps83
  go_wp2_with (go_at_call 98; refine (c106 _ _ (by omega) (by omega)).mono ?_; rintro e w' ⟨rfl, rfl⟩)
  all_goals go_ret
  all_goals refine ⟨retS_int ?_, rfl⟩
  all_goals grind (splits := 40) [kindO]
theorem byS_le (u : UInt8) : (u.toNat : Int) ≤ 255 := by have := UInt8.toNat_lt u; omega
theorem byS_ge (u : UInt8) : (0 : Int) ≤ (u.toNat : Int) := by omega
set_option maxHeartbeats 1000000 in
theorem c91 (s : ByteArray) (p : Nat) (w : World) (hs : s.size ≤ 1000) (hp : p ≤ s.size) :
    Calls Try.prog 84 #[.string s, .int .i64 p] w fun e w' => e = .returned (.int .i64 (skp s az p)) ∧ w' = w := by
  go_enter Try.func84, Try.ntmps84
  go_wp2
  go_loop [5] (fun i => ∃ k : Nat, k ≤ s.size ∧ i = .int .i64 k ∧ Hid (skp s az p = skp s az k)) (fun i => s.size - (intOf i).toNat)
  case atStart => exact ⟨p, hp, rfl, rfl⟩
  case round =>
    obtain ⟨k, hk, rfl, H⟩ := hrel
    by_cases hlt : k < s.size
    · have hg := gb_in s k hlt
      cases ha : az (gb s k)
      · have HF := hidS (H.out.trans (skp_stop s az k hlt ha))
        rw [hg] at ha
        clear hg H
        go_wp2_with (go_at_call 98; refine (c106 _ _ (byS_ge _) (byS_le _)).mono ?_; rintro e w' ⟨rfl, rfl⟩)
        go_ret
        exact ⟨retS_int (by rw [HF.out]), rfl⟩
      · have HS := hidS (skp_go s az k hlt ha)
        rw [hg] at ha
        clear hg
        go_wp2_with (go_at_call 98; refine (c106 _ _ (byS_ge _) (byS_le _)).mono ?_; rintro e w' ⟨rfl, rfl⟩)
        go_round
        case rel => exact ⟨k + 1, by omega, by go_num, H.out.trans HS.out⟩
        case measure => simp [intOf]; omega
    · have HF : Hid (skp s az p = k) := H.out.trans (skp_end s az k hlt)
      go_wp2
      go_ret
      exact ⟨retS_int (by rw [HF.out]), rfl⟩
set_option maxHeartbeats 400000 in
theorem c92 (k : Int) (n : Int) (m : Nat) (w : World) (hn : n = m) : Calls Try.prog 85 #[.int .i64 k, .int .i64 n] w fun e w' => e = .returned (.bool (fitsK k m)) ∧ w' = w := by
  subst hn
  go_enter Try.func85, Try.ntmps85
  go_wp2
  all_goals go_ret
  all_goals refine ⟨retS_bool ?_, rfl⟩
  all_goals grind (splits := 40) [fitsK]
def agV (s : ByteArray) (p : Nat) : Array Value := if (act s p).kind = 0 then #[.int .i64 0, .string ⟨#[]⟩, .int .i64 0, .int .i64 0, .string ⟨#[]⟩] else #[.int .i64 (act s p).kind, .string (act s p).name, .int .i64 p, .int .i64 (act s p).next, .string ⟨#[]⟩]
theorem agV_no (s : ByteArray) (p : Nat) (h : (act s p).kind = 0) : agV s p = #[.int .i64 0, .string ⟨#[]⟩, .int .i64 0, .int .i64 0, .string ⟨#[]⟩] := by rw [agV, if_pos h]
set_option maxHeartbeats 1000000 in
theorem c80no (s : ByteArray) (p : Nat) (w : World) (hs : s.size ≤ 1000) (hp : p < s.size) (h : ¬ (p + 1 < s.size ∧ gb s p = 123)) :
    Calls Try.prog 70 #[.string s, .int .i64 p] w fun e w' => e = .returned (.agg (agV s p)) ∧ Below w.heap.size w w' := by
  have HA : Hid (agV s p = #[.int .i64 0, .string ⟨#[]⟩, .int .i64 0, .int .i64 0, .string ⟨#[]⟩]) := agV_no s p (by
    by_cases e : (act s p).kind = 0
    · exact e
    · have := act_next s p e; omega)
  have hg := gb_in s p hp
  by_cases h1 : p + 1 < s.size
  · have ht : ((s[p].toNat : Int) != 123) = true := by rw [← hg]; simp; omega
    clear h hg
    go_enter Try.func70, Try.ntmps70
    go_wp2
    refine bodyPost_ret (v := .agg #[.int .i64 0, .string ⟨#[]⟩, .int .i64 0, .int .i64 0, .string ⟨#[]⟩]) (by simp [results, Try.results70, go_sem]) rfl ⟨by rw [HA.out], ?_⟩
    exact (Below.refl _ _).alloc (Nat.le_refl _) _
  · clear h hg
    go_enter Try.func70, Try.ntmps70
    go_wp2
    refine bodyPost_ret (v := .agg #[.int .i64 0, .string ⟨#[]⟩, .int .i64 0, .int .i64 0, .string ⟨#[]⟩]) (by simp [results, Try.results70, go_sem]) rfl ⟨by rw [HA.out], ?_⟩
    exact (Below.refl _ _).alloc (Nat.le_refl _) _
set_option maxHeartbeats 2000000 in
theorem c80k3 (s : ByteArray) (p : Nat) (w : World) (hs : s.size ≤ 1000) (hp : p + 1 < s.size) (hb : gb s p = 123) (h3 : kindO (gb s (p + 1)) = 3) :
    Calls Try.prog 70 #[.string s, .int .i64 p] w fun e w' => e = .returned (.agg (agV s p)) ∧ Below w.heap.size w w' := by
  have hp0 : p < s.size := by omega
  have hg := gb_in s p hp0
  have ht : ((s[p].toNat : Int) != 123) = false := by rw [← hg, hb]; decide
  have hg1 := gb_in s (p + 1) hp
  have Hk : Hid (∀ w, Calls Try.prog 83 #[.int .u8 ((s[p + 1]'hp).toNat : Int)] w fun e w' => e = .returned (.int .i64 (kindO (gb s (p + 1)))) ∧ w' = w) := by
    intro w; rw [hg1]; exact c90 _ w (byS_ge _) (byS_le _)
  have hfm : frm s p = p + 1 := by unfold frm; rw [if_pos h3]
  have hf2 := frm_range s p hp
  have hge : frm s p ≤ nend s p := skp_ge s az (frm s p)
  have hle : nend s p ≤ s.size := skp_le s az (frm s p) hf2.2
  have Hl : Hid (∀ w, Calls Try.prog 84 #[.string s, .int .i64 ((p : Int) + 1)] w fun e w' => e = .returned (.int .i64 (nend s p)) ∧ w' = w) := by
    intro w
    have := c91 s (frm s p) w hs hf2.2
    have e : ((frm s p : Nat) : Int) = (p : Int) + 1 := by omega
    rw [e] at this
    exact this
  have Hn : Hid (∀ w, Calls Try.prog 85 #[.int .i64 (kindO (gb s (p + 1))), .int .i64 ((nend s p : Int) - ((p : Int) + 1))] w fun e w' => e = .returned (.bool (fitsK (kindO (gb s (p + 1))) (nend s p - frm s p))) ∧ w' = w) :=
    fun w => c92 _ _ _ w (by omega)
  have HK3 := hidS h3
  have HD : Hid (isAc s p = (fitsK (kindO (gb s (p + 1))) (nend s p - frm s p) && decide (nend s p < s.size ∧ gb s (nend s p) = 125))) := by
    show _ = _; unfold isAc; simp [hp, hb]
  have HV : Hid (isAc s p = true → agV s p = #[.int .i64 (kindO (gb s (p + 1))), .string (s.extract (frm s p) (nend s p)), .int .i64 p, .int .i64 (nend s p + 1), .string ⟨#[]⟩]) := by
    intro h
    have e : act s p = ⟨kindO (gb s (p + 1)), s.extract (frm s p) (nend s p), nend s p + 1⟩ := by rw [act, if_pos h]
    have ne : (act s p).kind ≠ 0 := by
      intro z
      rw [e] at z
      have z' : kindO (gb s (p + 1)) = 0 := z
      have h' := h
      simp only [isAc, z', Bool.and_eq_true] at h'
      simp [fitsK] at h'
    rw [agV, if_neg ne, e]; rfl
  have HN : Hid (isAc s p = false → agV s p = #[.int .i64 0, .string ⟨#[]⟩, .int .i64 0, .int .i64 0, .string ⟨#[]⟩]) := by
    intro h
    apply agV_no
    rw [act, if_neg (by rw [h]; decide)]; rfl
  have hfx : p + 1 ≤ nend s p := by omega
  rw [hfm] at Hn HD HV
  have hk3 : (kindO (gb s (p + 1)) == 3) = true := by simp [h3]
  clear hg hg1 h3 hfm hf2 hge hb
  generalize kindO (gb s (p + 1)) = kk at *
  have hge2 := gb_in s (nend s p)
  generalize nend s p = e1 at *
  cases hF : fitsK kk (e1 - (p + 1))
  · have HA := hidS (HN.out (by rw [HD.out, hF]; rfl))
    go_enter Try.func70, Try.ntmps70
    go_wp2_with fail
    refine (Hk.out _).mono ?_
    rintro e w' ⟨rfl, hw⟩
    obtain rfl := hw.symm
    go_wp2_with fail
    refine (Hl.out _).mono ?_
    rintro e w' ⟨rfl, hw⟩
    obtain rfl := hw.symm
    go_wp2_with fail
    refine (Hn.out _).mono ?_
    rintro e w' ⟨rfl, hw⟩
    obtain rfl := hw.symm
    rw [hF]
    go_wp2
    refine bodyPost_ret (v := .agg #[.int .i64 0, .string ⟨#[]⟩, .int .i64 0, .int .i64 0, .string ⟨#[]⟩]) (by simp [results, Try.results70, go_sem]) rfl ⟨by rw [HA.out], ?_⟩
    exact (Below.refl _ _).alloc (Nat.le_refl _) _
  · by_cases h1 : e1 < s.size
    · have hgg := hge2 h1
      by_cases h2 : gb s e1 = 125
      · have HA := hidS (HV.out (by rw [HD.out, hF]; simp [h1, h2]))
        have ht2 : (((s[e1]'h1).toNat : Int) != 125) = false := by rw [← hgg, h2]; decide
        clear hgg h2 hge2
        go_enter Try.func70, Try.ntmps70
        go_wp2_with fail
        refine (Hk.out _).mono ?_
        rintro e w' ⟨rfl, hw⟩
        obtain rfl := hw.symm
        go_wp2_with fail
        refine (Hl.out _).mono ?_
        rintro e w' ⟨rfl, hw⟩
        obtain rfl := hw.symm
        go_wp2_with fail
        refine (Hn.out _).mono ?_
        rintro e w' ⟨rfl, hw⟩
        obtain rfl := hw.symm
        rw [hF]
        go_wp2
        refine bodyPost_ret (v := .agg #[.int .i64 kk, .string (s.extract (p + 1) e1), .int .i64 p, .int .i64 (e1 + 1), .string ⟨#[]⟩]) (by simp [results, Try.results70, go_sem]) rfl ⟨by rw [HA.out], ?_⟩
        exact (Below.refl _ _).alloc (Nat.le_refl _) _
      · have HA := hidS (HN.out (by rw [HD.out, hF]; simp [h2]))
        have ht2 : (((s[e1]'h1).toNat : Int) != 125) = true := by rw [← hgg]; simpa using h2
        clear hgg h2 hge2
        go_enter Try.func70, Try.ntmps70
        go_wp2_with fail
        refine (Hk.out _).mono ?_
        rintro e w' ⟨rfl, hw⟩
        obtain rfl := hw.symm
        go_wp2_with fail
        refine (Hl.out _).mono ?_
        rintro e w' ⟨rfl, hw⟩
        obtain rfl := hw.symm
        go_wp2_with fail
        refine (Hn.out _).mono ?_
        rintro e w' ⟨rfl, hw⟩
        obtain rfl := hw.symm
        rw [hF]
        go_wp2
        refine bodyPost_ret (v := .agg #[.int .i64 0, .string ⟨#[]⟩, .int .i64 0, .int .i64 0, .string ⟨#[]⟩]) (by simp [results, Try.results70, go_sem]) rfl ⟨by rw [HA.out], ?_⟩
        exact (Below.refl _ _).alloc (Nat.le_refl _) _
    · have HA := hidS (HN.out (by rw [HD.out, hF]; simp [h1]))
      clear hge2
      go_enter Try.func70, Try.ntmps70
      go_wp2_with fail
      refine (Hk.out _).mono ?_
      rintro e w' ⟨rfl, hw⟩
      obtain rfl := hw.symm
      go_wp2_with fail
      refine (Hl.out _).mono ?_
      rintro e w' ⟨rfl, hw⟩
      obtain rfl := hw.symm
      go_wp2_with fail
      refine (Hn.out _).mono ?_
      rintro e w' ⟨rfl, hw⟩
      obtain rfl := hw.symm
      rw [hF]
      go_wp2
      refine bodyPost_ret (v := .agg #[.int .i64 0, .string ⟨#[]⟩, .int .i64 0, .int .i64 0, .string ⟨#[]⟩]) (by simp [results, Try.results70, go_sem]) rfl ⟨by rw [HA.out], ?_⟩
      exact (Below.refl _ _).alloc (Nat.le_refl _) _
set_option maxHeartbeats 2000000 in
theorem c80kn (s : ByteArray) (p : Nat) (w : World) (hs : s.size ≤ 1000) (hp : p + 1 < s.size) (hb : gb s p = 123) (h3 : kindO (gb s (p + 1)) ≠ 3) :
    Calls Try.prog 70 #[.string s, .int .i64 p] w fun e w' => e = .returned (.agg (agV s p)) ∧ Below w.heap.size w w' := by
  have hp0 : p < s.size := by omega
  have hg := gb_in s p hp0
  have ht : ((s[p].toNat : Int) != 123) = false := by rw [← hg, hb]; decide
  have hg1 := gb_in s (p + 1) hp
  have Hk : Hid (∀ w, Calls Try.prog 83 #[.int .u8 ((s[p + 1]'hp).toNat : Int)] w fun e w' => e = .returned (.int .i64 (kindO (gb s (p + 1)))) ∧ w' = w) := by
    intro w; rw [hg1]; exact c90 _ w (byS_ge _) (byS_le _)
  have hfm : frm s p = p + 2 := by unfold frm; rw [if_neg h3]
  have hf2 := frm_range s p hp
  have hge : frm s p ≤ nend s p := skp_ge s az (frm s p)
  have hle : nend s p ≤ s.size := skp_le s az (frm s p) hf2.2
  have Hl : Hid (∀ w, Calls Try.prog 84 #[.string s, .int .i64 ((p : Int) + 2)] w fun e w' => e = .returned (.int .i64 (nend s p)) ∧ w' = w) := by
    intro w
    have := c91 s (frm s p) w hs hf2.2
    have e : ((frm s p : Nat) : Int) = (p : Int) + 2 := by omega
    rw [e] at this
    exact this
  have Hn : Hid (∀ w, Calls Try.prog 85 #[.int .i64 (kindO (gb s (p + 1))), .int .i64 ((nend s p : Int) - ((p : Int) + 2))] w fun e w' => e = .returned (.bool (fitsK (kindO (gb s (p + 1))) (nend s p - frm s p))) ∧ w' = w) :=
    fun w => c92 _ _ _ w (by omega)
  have HK3 := hidS h3
  have HD : Hid (isAc s p = (fitsK (kindO (gb s (p + 1))) (nend s p - frm s p) && decide (nend s p < s.size ∧ gb s (nend s p) = 125))) := by
    show _ = _; unfold isAc; simp [hp, hb]
  have HV : Hid (isAc s p = true → agV s p = #[.int .i64 (kindO (gb s (p + 1))), .string (s.extract (frm s p) (nend s p)), .int .i64 p, .int .i64 (nend s p + 1), .string ⟨#[]⟩]) := by
    intro h
    have e : act s p = ⟨kindO (gb s (p + 1)), s.extract (frm s p) (nend s p), nend s p + 1⟩ := by rw [act, if_pos h]
    have ne : (act s p).kind ≠ 0 := by
      intro z
      rw [e] at z
      have z' : kindO (gb s (p + 1)) = 0 := z
      have h' := h
      simp only [isAc, z', Bool.and_eq_true] at h'
      simp [fitsK] at h'
    rw [agV, if_neg ne, e]; rfl
  have HN : Hid (isAc s p = false → agV s p = #[.int .i64 0, .string ⟨#[]⟩, .int .i64 0, .int .i64 0, .string ⟨#[]⟩]) := by
    intro h
    apply agV_no
    rw [act, if_neg (by rw [h]; decide)]; rfl
  have hfx : p + 2 ≤ nend s p := by omega
  rw [hfm] at Hn HD HV
  have hk3 : (kindO (gb s (p + 1)) == 3) = false := by simp [h3]
  clear hg hg1 h3 hfm hf2 hge hb
  generalize kindO (gb s (p + 1)) = kk at *
  have hge2 := gb_in s (nend s p)
  generalize nend s p = e1 at *
  cases hF : fitsK kk (e1 - (p + 2))
  · have HA := hidS (HN.out (by rw [HD.out, hF]; rfl))
    go_enter Try.func70, Try.ntmps70
    go_wp2_with fail
    refine (Hk.out _).mono ?_
    rintro e w' ⟨rfl, hw⟩
    obtain rfl := hw.symm
    go_wp2_with fail
    refine (Hl.out _).mono ?_
    rintro e w' ⟨rfl, hw⟩
    obtain rfl := hw.symm
    go_wp2_with fail
    refine (Hn.out _).mono ?_
    rintro e w' ⟨rfl, hw⟩
    obtain rfl := hw.symm
    rw [hF]
    go_wp2
    refine bodyPost_ret (v := .agg #[.int .i64 0, .string ⟨#[]⟩, .int .i64 0, .int .i64 0, .string ⟨#[]⟩]) (by simp [results, Try.results70, go_sem]) rfl ⟨by rw [HA.out], ?_⟩
    exact (Below.refl _ _).alloc (Nat.le_refl _) _
  · by_cases h1 : e1 < s.size
    · have hgg := hge2 h1
      by_cases h2 : gb s e1 = 125
      · have HA := hidS (HV.out (by rw [HD.out, hF]; simp [h1, h2]))
        have ht2 : (((s[e1]'h1).toNat : Int) != 125) = false := by rw [← hgg, h2]; decide
        clear hgg h2 hge2
        go_enter Try.func70, Try.ntmps70
        go_wp2_with fail
        refine (Hk.out _).mono ?_
        rintro e w' ⟨rfl, hw⟩
        obtain rfl := hw.symm
        go_wp2_with fail
        refine (Hl.out _).mono ?_
        rintro e w' ⟨rfl, hw⟩
        obtain rfl := hw.symm
        go_wp2_with fail
        refine (Hn.out _).mono ?_
        rintro e w' ⟨rfl, hw⟩
        obtain rfl := hw.symm
        rw [hF]
        go_wp2
        refine bodyPost_ret (v := .agg #[.int .i64 kk, .string (s.extract (p + 2) e1), .int .i64 p, .int .i64 (e1 + 1), .string ⟨#[]⟩]) (by simp [results, Try.results70, go_sem]) rfl ⟨by rw [HA.out], ?_⟩
        exact (Below.refl _ _).alloc (Nat.le_refl _) _
      · have HA := hidS (HN.out (by rw [HD.out, hF]; simp [h2]))
        have ht2 : (((s[e1]'h1).toNat : Int) != 125) = true := by rw [← hgg]; simpa using h2
        clear hgg h2 hge2
        go_enter Try.func70, Try.ntmps70
        go_wp2_with fail
        refine (Hk.out _).mono ?_
        rintro e w' ⟨rfl, hw⟩
        obtain rfl := hw.symm
        go_wp2_with fail
        refine (Hl.out _).mono ?_
        rintro e w' ⟨rfl, hw⟩
        obtain rfl := hw.symm
        go_wp2_with fail
        refine (Hn.out _).mono ?_
        rintro e w' ⟨rfl, hw⟩
        obtain rfl := hw.symm
        rw [hF]
        go_wp2
        refine bodyPost_ret (v := .agg #[.int .i64 0, .string ⟨#[]⟩, .int .i64 0, .int .i64 0, .string ⟨#[]⟩]) (by simp [results, Try.results70, go_sem]) rfl ⟨by rw [HA.out], ?_⟩
        exact (Below.refl _ _).alloc (Nat.le_refl _) _
    · have HA := hidS (HN.out (by rw [HD.out, hF]; simp [h1]))
      clear hge2
      go_enter Try.func70, Try.ntmps70
      go_wp2_with fail
      refine (Hk.out _).mono ?_
      rintro e w' ⟨rfl, hw⟩
      obtain rfl := hw.symm
      go_wp2_with fail
      refine (Hl.out _).mono ?_
      rintro e w' ⟨rfl, hw⟩
      obtain rfl := hw.symm
      go_wp2_with fail
      refine (Hn.out _).mono ?_
      rintro e w' ⟨rfl, hw⟩
      obtain rfl := hw.symm
      rw [hF]
      go_wp2
      refine bodyPost_ret (v := .agg #[.int .i64 0, .string ⟨#[]⟩, .int .i64 0, .int .i64 0, .string ⟨#[]⟩]) (by simp [results, Try.results70, go_sem]) rfl ⟨by rw [HA.out], ?_⟩
      exact (Below.refl _ _).alloc (Nat.le_refl _) _
theorem c80 (s : ByteArray) (p : Nat) (w : World) (hs : s.size ≤ 1000) (hp : p < s.size) :
    Calls Try.prog 70 #[.string s, .int .i64 p] w fun e w' => e = .returned (.agg (agV s p)) ∧ Below w.heap.size w w' := by
  by_cases h : p + 1 < s.size ∧ gb s p = 123
  · by_cases h3 : kindO (gb s (p + 1)) = 3
    · exact c80k3 s p w hs h.1 h.2 h3
    · exact c80kn s p w hs h.1 h.2 h3
  · exact c80no s p w hs hp h
end Go.Proofs.Ytffkejkgkgfnhaa
