import Derived.Test.YtffkejkgkgfnhabGreatG24
import Derived.Test.YtffkejkgkgfnhabGreatG15
import Derived.Test.YtffkejkgkgfnhabGreatG13
namespace Go.Proofs.YtffkejkgkgfnhabGreat
open Go.ChangeShapes Go.WideShapes Go.ChangeAt Go.RowKit Go.Deep
set_option linter.unusedVariables false
set_option maxHeartbeats 1000000 in
theorem w8 (hP : PWOK 22) (w : World) (wb : Nat) (ha : Option Addr) (hc : Nat) (hs : List Hd) (n : Int) (s t : ByteArray) (d : Value) (hsz : s.size ≤ maxLen) (hl : hs.length ≤ 4500000) (hW : WdOK w wb ha hc hs) :
    Calls Tryz.prog 5 #[.pointer (some ⟨wb, 0, none⟩), .agg #[.int .i64 4, .int .i64 n, .string s, .string t, d]] w fun e w' => e = .returned (.bool true) ∧ Below wb w w' ∧ ∃ ha' hc' hs', hs'.length = hs.length + 4 ∧ WdOK w' wb ha' hc' hs' := by
  have Hc := hidS (fun o => w16 hP (w.alloc o) wb ha hc hs n s t d hsz hl (hW.below ((Below.refl _ _).alloc (Nat.le_refl _) _)))
  have hwl := hW.lt
  clear hW hP
  go_enter Tryz.func5, Tryz.ntmps5
  go_wp2_with fail
  refine (Hc.out _).mono ?_
  clear Hc
  rintro e w1 ⟨rfl, hb, ha', hc', hs', hh, hw⟩
  have HH := hidS hh
  have HW := hidS hw
  clear hh hw
  go_wp2
  go_ret
  exact ⟨rfl, ((Below.refl wb w).alloc (by omega) _).trans hb, ha', hc', hs', HH.out, HW.out⟩
theorem wd0 (w : World) : WdOK (w.alloc (.cells #[.slice none 0 0] 28)) w.heap.size none 0 [] := by
  refine ⟨by simp, by simp, World.ownsRow_nil _ _ _ _, by simp, fun h hh => absurd hh (by simp), fun h hh => absurd hh (by simp), fun h hh => absurd hh (by simp)⟩
set_option maxHeartbeats 2000000 in
theorem w7 (hP : PWOK 22) (w : World) (b off len cap : Nat) (hlen : len ≤ 1048576) (Kd Nn : Nat → Int) (Ss Ts : Nat → ByteArray) (Ds : Nat → Value) (hb : b < w.heap.size)
  (hc0 : ∀ i, i < len → w.cell? ⟨b, off + i * 5, none⟩ = some (.int .i64 (Kd i)))
  (hc1 : ∀ i, i < len → w.cell? ⟨b, off + i * 5 + 1, none⟩ = some (.int .i64 (Nn i)))
  (hc2 : ∀ i, i < len → w.cell? ⟨b, off + i * 5 + 2, none⟩ = some (.string (Ss i)))
  (hc3 : ∀ i, i < len → w.cell? ⟨b, off + i * 5 + 3, none⟩ = some (.string (Ts i)))
  (hc4 : ∀ i, i < len → w.cell? ⟨b, off + i * 5 + 4, none⟩ = some (Ds i)) (hG : ∀ i, i < len → (Ss i).size ≤ maxLen) :
    Calls Tryz.prog 4 #[.slice (some ⟨b, off, none⟩) len cap, .int .i64 4, .int .i64 4] w fun e w' => e = .returned (.int .i64 (-1)) ∧ Below w.heap.size w w' := by
  have H0 := hidS hc0; have H1 := hidS hc1; have H2 := hidS hc2; have H3 := hidS hc3; have H4 := hidS hc4; have HG := hidS hG
  have HP := hidS hP
  clear hc0 hc1 hc2 hc3 hc4 hG hP
  go_enter Tryz.func4, Tryz.ntmps4
  go_wp2
  go_loopw [8, 9, 10] (fun i _ _ wr => ∃ (k : Nat) (ha : Option Addr) (hc : Nat) (hs : List Hd), k ≤ len ∧ i = .int .i64 k ∧ hs.length ≤ 4 * k ∧ Hid (WdOK wr w.heap.size ha hc hs) ∧ Hid (Below w.heap.size w wr)) (fun i _ _ _ => len - (intOf i).toNat)
  case atStart => exact ⟨0, none, 0, [], Nat.zero_le _, rfl, by simp, wd0 w, (Below.refl _ _).alloc (Nat.le_refl _) _⟩
  case round =>
    obtain ⟨k, ha, hc, hs, hk, rfl, hhl, HW, HB⟩ := hrel
    by_cases hlt : k < len
    · have old : ∀ o v, w.cell? ⟨b, o, none⟩ = some v → wr.cell? ⟨b, o, none⟩ = some v := fun o v h => (HB.out.cell (p := ⟨b, o, none⟩) hb).trans h
      have k0 := old _ _ (H0.out k hlt)
      have k1 := old _ _ (H1.out k hlt)
      have k2 := old _ _ (H2.out k hlt)
      have k3 := old _ _ (H3.out k hlt)
      have k4 := old _ _ (H4.out k hlt)
      have hG' := HG.out k hlt
      clear old
      by_cases hK : Kd k = 4
      · have e1 : ¬ Kd k < 4 := by omega
        have e2 : ¬ 4 < Kd k := by omega
        have HK := hidS hK
        have Hc := hidS (w8 HP.out wr w.heap.size ha hc hs (Nn k) (Ss k) (Ts k) (Ds k) hG' (by omega) HW.out)
        clear hK hG'
        go_wp2_with fail
        rw [HK.out]
        refine Hc.out.mono ?_
        rintro e w2 ⟨rfl, hb2, ha', hc', hs', hh, hw⟩
        have HB2 : Hid (Below w.heap.size w w2) := HB.out.trans hb2
        have Hl := hidS (c9L w2 w.heap.size ha' hc' hs' (by omega) hw)
        have HW2 := hidS hw
        clear k0 k1 k2 k3 k4 hb2 hw Hc HW
        go_wp2_with fail
        refine Hl.out.mono ?_
        rintro e w3 ⟨rfl, hb3⟩
        have HW3 := hidS (HW2.out.below hb3)
        have HB3 : Hid (Below w.heap.size w w3) := HB2.out.trans (hb3.mono HB2.out.size)
        clear hb3 Hl HW2
        go_wp2
        exact ⟨⟨k + 1, ha', hc', hs', by omega, by go_num, by omega, HW3.out, HB3.out⟩, by simp [intOf]; omega⟩
      · clear k1 k2 k3 k4
        by_cases e1 : Kd k < 4
        · go_wp2
          exact ⟨⟨k + 1, ha, hc, hs, by omega, by go_num, by omega, HW.out, HB.out⟩, by simp [intOf]; omega⟩
        · have e2 : 4 < Kd k := by omega
          clear hK
          go_wp2
          exact ⟨⟨k + 1, ha, hc, hs, by omega, by go_num, by omega, HW.out, HB.out⟩, by simp [intOf]; omega⟩
    · go_wp2
      go_ret
      exact ⟨rfl, HB.out⟩
theorem open_len {H : Type} {enc : TypeId × Value → H} {w : World} {fuel len cap : Nat} {a : Option Addr} {x : DataW H × List MemPlace}
    (h : DataW.trod enc Tryz.prog w 0 (fun _ => true) true fuel 22 [.slice a len cap] = some x) : len = 0 ∨ ∃ elems spare, x.1 = .slice elems spare ∧ elems.length = len := by
  rcases open_slice Tryz.underlying22 h with ⟨hcs, _⟩ | ⟨a', len', cap', m, n, D, Pl, hcs, _, hl, hm, hmm, hx, hall⟩
  · simp at hcs; exact .inl hcs.2.1
  · simp at hcs
    obtain ⟨rfl, rfl, rfl⟩ := hcs
    exact .inr ⟨_, _, by rw [hx], by simp⟩
theorem bulk_len {H : Type} (l : List (DataW H)) : l.length ≤ Rows.uptoBulkAll l := by
  induction l with
  | nil => simp
  | cons x r ih => have := bulk_one x; simp only [Rows.uptoBulkAll, List.length_cons]; omega
theorem small_len {H : Type} (x : DataW H) (hk : Rows.uptoSmall H [x] = true) (elems spare : List (DataW H)) (hx : x = .slice elems spare) : elems.length ≤ 1048576 := by
  have h := of_decide_eq_true hk
  have h2 := bulk_len elems
  subst hx
  simp only [Rows.uptoBulkAll, Rows.uptoBulk] at h
  omega
theorem own7 : ownKnob Tryz.prog.godebug = none := by kernel_rfl
theorem laid7 : laidOutB Tryz.prog = true := by kernel_rfl
end Go.Proofs.YtffkejkgkgfnhabGreat
namespace Go.Proofs.YtffkejkgkgfnhabGreat
open Go.RowKit
set_option linter.unusedVariables false
set_option maxHeartbeats 400000 in
theorem c106 (b : Int) (w : World) (h0 : 0 ≤ b) (h1 : b ≤ 255) : Calls Tryz.prog 120 #[.int .u8 b] w fun e w' => e = .returned (.bool (az b)) ∧ w' = w := by
  go_enter Tryz.func120, Tryz.ntmps120
  go_wp2
  all_goals go_ret
  all_goals refine ⟨retS_bool ?_, rfl⟩
  all_goals grind (splits := 40) [az]
set_option maxHeartbeats 400000 in
theorem c90 (b : Int) (w : World) (h0 : 0 ≤ b) (h1 : b ≤ 255) : Calls Tryz.prog 99 #[.int .u8 b] w fun e w' => e = .returned (.int .i64 (kindO b)) ∧ w' = w := by
  go_enter Tryz.func99, Tryz.ntmps99
  go_wp2_with (go_at_call 120; refine (c106 _ _ (by omega) (by omega)).mono ?_; rintro e w' ⟨rfl, rfl⟩)
  all_goals go_ret
  all_goals refine ⟨retS_int ?_, rfl⟩
  all_goals grind (splits := 40) [kindO]
theorem byS_le (u : UInt8) : (u.toNat : Int) ≤ 255 := by have := UInt8.toNat_lt u; omega
theorem byS_ge (u : UInt8) : (0 : Int) ≤ (u.toNat : Int) := by omega
set_option maxHeartbeats 1000000 in
theorem c91 (s : ByteArray) (p : Nat) (w : World) (hs : s.size ≤ 1000) (hp : p ≤ s.size) :
    Calls Tryz.prog 100 #[.string s, .int .i64 p] w fun e w' => e = .returned (.int .i64 (skp s az p)) ∧ w' = w := by
  go_enter Tryz.func100, Tryz.ntmps100
  go_wp2
  go_loop [5] (fun i => ∃ k : Nat, k ≤ s.size ∧ i = .int .i64 k ∧ Hid (skp s az p = skp s az k)) (fun i => s.size - (intOf i).toNat)
  case atStart => exact ⟨p, hp, rfl, rfl⟩
  case round =>
    obtain ⟨k, hk, rfl, H⟩ := hrel
    by_cases hlt : k < s.size
    · have hg := gb_in s k hlt
      cases ha : az (gb s k)
      · have HF := hidS (H.out.trans (skp_stop s az k hlt ha))
        rw [hg] at ha
        clear hg H
        go_wp2_with (go_at_call 120; refine (c106 _ _ (byS_ge _) (byS_le _)).mono ?_; rintro e w' ⟨rfl, rfl⟩)
        go_ret
        exact ⟨retS_int (by rw [HF.out]), rfl⟩
      · have HS := hidS (skp_go s az k hlt ha)
        rw [hg] at ha
        clear hg
        go_wp2_with (go_at_call 120; refine (c106 _ _ (byS_ge _) (byS_le _)).mono ?_; rintro e w' ⟨rfl, rfl⟩)
        go_round
        case rel => exact ⟨k + 1, by omega, by go_num, H.out.trans HS.out⟩
        case measure => simp [intOf]; omega
    · have HF : Hid (skp s az p = k) := H.out.trans (skp_end s az k hlt)
      go_wp2
      go_ret
      exact ⟨retS_int (by rw [HF.out]), rfl⟩
set_option maxHeartbeats 400000 in
theorem c92 (k : Int) (n : Int) (m : Nat) (w : World) (hn : n = m) : Calls Tryz.prog 101 #[.int .i64 k, .int .i64 n] w fun e w' => e = .returned (.bool (fitsK k m)) ∧ w' = w := by
  subst hn
  go_enter Tryz.func101, Tryz.ntmps101
  go_wp2
  all_goals go_ret
  all_goals refine ⟨retS_bool ?_, rfl⟩
  all_goals grind (splits := 40) [fitsK]
def agV (s : ByteArray) (p : Nat) : Array Value := if (act s p).kind = 0 then #[.int .i64 0, .string ⟨#[]⟩, .int .i64 0, .int .i64 0, .string ⟨#[]⟩] else #[.int .i64 (act s p).kind, .string (act s p).name, .int .i64 p, .int .i64 (act s p).next, .string ⟨#[]⟩]
theorem agV_no (s : ByteArray) (p : Nat) (h : (act s p).kind = 0) : agV s p = #[.int .i64 0, .string ⟨#[]⟩, .int .i64 0, .int .i64 0, .string ⟨#[]⟩] := by rw [agV, if_pos h]
set_option maxHeartbeats 1000000 in
theorem c80no (s : ByteArray) (p : Nat) (w : World) (hs : s.size ≤ 1000) (hp : p < s.size) (h : ¬ (p + 1 < s.size ∧ gb s p = 123)) :
    Calls Tryz.prog 77 #[.string s, .int .i64 p] w fun e w' => e = .returned (.agg (agV s p)) ∧ Below w.heap.size w w' := by
  have HA : Hid (agV s p = #[.int .i64 0, .string ⟨#[]⟩, .int .i64 0, .int .i64 0, .string ⟨#[]⟩]) := agV_no s p (by
    by_cases e : (act s p).kind = 0
    · exact e
    · have := act_next s p e; omega)
  have hg := gb_in s p hp
  by_cases h1 : p + 1 < s.size
  · have ht : ((s[p].toNat : Int) != 123) = true := by rw [← hg]; simp; omega
    clear h hg
    go_enter Tryz.func77, Tryz.ntmps77
    go_wp2
    refine bodyPost_ret (v := .agg #[.int .i64 0, .string ⟨#[]⟩, .int .i64 0, .int .i64 0, .string ⟨#[]⟩]) (by simp [results, Tryz.results77, go_sem]) rfl ⟨by rw [HA.out], ?_⟩
    exact (Below.refl _ _).alloc (Nat.le_refl _) _
  · clear h hg
    go_enter Tryz.func77, Tryz.ntmps77
    go_wp2
    refine bodyPost_ret (v := .agg #[.int .i64 0, .string ⟨#[]⟩, .int .i64 0, .int .i64 0, .string ⟨#[]⟩]) (by simp [results, Tryz.results77, go_sem]) rfl ⟨by rw [HA.out], ?_⟩
    exact (Below.refl _ _).alloc (Nat.le_refl _) _
set_option maxHeartbeats 2000000 in
theorem c80k3 (s : ByteArray) (p : Nat) (w : World) (hs : s.size ≤ 1000) (hp : p + 1 < s.size) (hb : gb s p = 123) (h3 : kindO (gb s (p + 1)) = 3) :
    Calls Tryz.prog 77 #[.string s, .int .i64 p] w fun e w' => e = .returned (.agg (agV s p)) ∧ Below w.heap.size w w' := by
  have hp0 : p < s.size := by omega
  have hg := gb_in s p hp0
  have ht : ((s[p].toNat : Int) != 123) = false := by rw [← hg, hb]; decide
  have hg1 := gb_in s (p + 1) hp
  have Hk : Hid (∀ w, Calls Tryz.prog 99 #[.int .u8 ((s[p + 1]'hp).toNat : Int)] w fun e w' => e = .returned (.int .i64 (kindO (gb s (p + 1)))) ∧ w' = w) := by
    intro w; rw [hg1]; exact c90 _ w (byS_ge _) (byS_le _)
  have hfm : frm s p = p + 1 := by unfold frm; rw [if_pos h3]
  have hf2 := frm_range s p hp
  have hge : frm s p ≤ nend s p := skp_ge s az (frm s p)
  have hle : nend s p ≤ s.size := skp_le s az (frm s p) hf2.2
  have Hl : Hid (∀ w, Calls Tryz.prog 100 #[.string s, .int .i64 ((p : Int) + 1)] w fun e w' => e = .returned (.int .i64 (nend s p)) ∧ w' = w) := by
    intro w
    have := c91 s (frm s p) w hs hf2.2
    have e : ((frm s p : Nat) : Int) = (p : Int) + 1 := by omega
    rw [e] at this
    exact this
  have Hn : Hid (∀ w, Calls Tryz.prog 101 #[.int .i64 (kindO (gb s (p + 1))), .int .i64 ((nend s p : Int) - ((p : Int) + 1))] w fun e w' => e = .returned (.bool (fitsK (kindO (gb s (p + 1))) (nend s p - frm s p))) ∧ w' = w) :=
    fun w => c92 _ _ _ w (by omega)
  have HK3 := hidS h3
  have HD : Hid (isAc s p = (fitsK (kindO (gb s (p + 1))) (nend s p - frm s p) && decide (nend s p < s.size ∧ gb s (nend s p) = 125))) := by
    show _ = _; unfold isAc; simp [hp, hb]
  have HV : Hid (isAc s p = true → agV s p = #[.int .i64 (kindO (gb s (p + 1))), .string (s.extract (frm s p) (nend s p)), .int .i64 p, .int .i64 (nend s p + 1), .string ⟨#[]⟩]) := by
    intro h
    have e : act s p = ⟨kindO (gb s (p + 1)), s.extract (frm s p) (nend s p), nend s p + 1⟩ := by rw [act, if_pos h]
    have ne : (act s p).kind ≠ 0 := by
      intro z
      rw [e] at z
      have z' : kindO (gb s (p + 1)) = 0 := z
      have h' := h
      simp only [isAc, z', Bool.and_eq_true] at h'
      simp [fitsK] at h'
    rw [agV, if_neg ne, e]; rfl
  have HN : Hid (isAc s p = false → agV s p = #[.int .i64 0, .string ⟨#[]⟩, .int .i64 0, .int .i64 0, .string ⟨#[]⟩]) := by
    intro h
    apply agV_no
    rw [act, if_neg (by rw [h]; decide)]; rfl
  have hfx : p + 1 ≤ nend s p := by omega
  rw [hfm] at Hn HD HV
  have hk3 : (kindO (gb s (p + 1)) == 3) = true := by simp [h3]
  clear hg hg1 h3 hfm hf2 hge hb
  generalize kindO (gb s (p + 1)) = kk at *
  have hge2 := gb_in s (nend s p)
  generalize nend s p = e1 at *
  cases hF : fitsK kk (e1 - (p + 1))
  · have HA := hidS (HN.out (by rw [HD.out, hF]; rfl))
    go_enter Tryz.func77, Tryz.ntmps77
    go_wp2_with fail
    refine (Hk.out _).mono ?_
    rintro e w' ⟨rfl, hw⟩
    obtain rfl := hw.symm
    go_wp2_with fail
    refine (Hl.out _).mono ?_
    rintro e w' ⟨rfl, hw⟩
    obtain rfl := hw.symm
    go_wp2_with fail
    refine (Hn.out _).mono ?_
    rintro e w' ⟨rfl, hw⟩
    obtain rfl := hw.symm
    rw [hF]
    go_wp2
    refine bodyPost_ret (v := .agg #[.int .i64 0, .string ⟨#[]⟩, .int .i64 0, .int .i64 0, .string ⟨#[]⟩]) (by simp [results, Tryz.results77, go_sem]) rfl ⟨by rw [HA.out], ?_⟩
    exact (Below.refl _ _).alloc (Nat.le_refl _) _
  · by_cases h1 : e1 < s.size
    · have hgg := hge2 h1
      by_cases h2 : gb s e1 = 125
      · have HA := hidS (HV.out (by rw [HD.out, hF]; simp [h1, h2]))
        have ht2 : (((s[e1]'h1).toNat : Int) != 125) = false := by rw [← hgg, h2]; decide
        clear hgg h2 hge2
        go_enter Tryz.func77, Tryz.ntmps77
        go_wp2_with fail
        refine (Hk.out _).mono ?_
        rintro e w' ⟨rfl, hw⟩
        obtain rfl := hw.symm
        go_wp2_with fail
        refine (Hl.out _).mono ?_
        rintro e w' ⟨rfl, hw⟩
        obtain rfl := hw.symm
        go_wp2_with fail
        refine (Hn.out _).mono ?_
        rintro e w' ⟨rfl, hw⟩
        obtain rfl := hw.symm
        rw [hF]
        go_wp2
        refine bodyPost_ret (v := .agg #[.int .i64 kk, .string (s.extract (p + 1) e1), .int .i64 p, .int .i64 (e1 + 1), .string ⟨#[]⟩]) (by simp [results, Tryz.results77, go_sem]) rfl ⟨by rw [HA.out], ?_⟩
        exact (Below.refl _ _).alloc (Nat.le_refl _) _
      · have HA := hidS (HN.out (by rw [HD.out, hF]; simp [h2]))
        have ht2 : (((s[e1]'h1).toNat : Int) != 125) = true := by rw [← hgg]; simpa using h2
        clear hgg h2 hge2
        go_enter Tryz.func77, Tryz.ntmps77
        go_wp2_with fail
        refine (Hk.out _).mono ?_
        rintro e w' ⟨rfl, hw⟩
        obtain rfl := hw.symm
        go_wp2_with fail
        refine (Hl.out _).mono ?_
        rintro e w' ⟨rfl, hw⟩
        obtain rfl := hw.symm
        go_wp2_with fail
        refine (Hn.out _).mono ?_
        rintro e w' ⟨rfl, hw⟩
        obtain rfl := hw.symm
        rw [hF]
        go_wp2
        refine bodyPost_ret (v := .agg #[.int .i64 0, .string ⟨#[]⟩, .int .i64 0, .int .i64 0, .string ⟨#[]⟩]) (by simp [results, Tryz.results77, go_sem]) rfl ⟨by rw [HA.out], ?_⟩
        exact (Below.refl _ _).alloc (Nat.le_refl _) _
    · have HA := hidS (HN.out (by rw [HD.out, hF]; simp [h1]))
      clear hge2
      go_enter Tryz.func77, Tryz.ntmps77
      go_wp2_with fail
      refine (Hk.out _).mono ?_
      rintro e w' ⟨rfl, hw⟩
      obtain rfl := hw.symm
      go_wp2_with fail
      refine (Hl.out _).mono ?_
      rintro e w' ⟨rfl, hw⟩
      obtain rfl := hw.symm
      go_wp2_with fail
      refine (Hn.out _).mono ?_
      rintro e w' ⟨rfl, hw⟩
      obtain rfl := hw.symm
      rw [hF]
      go_wp2
      refine bodyPost_ret (v := .agg #[.int .i64 0, .string ⟨#[]⟩, .int .i64 0, .int .i64 0, .string ⟨#[]⟩]) (by simp [results, Tryz.results77, go_sem]) rfl ⟨by rw [HA.out], ?_⟩
      exact (Below.refl _ _).alloc (Nat.le_refl _) _
set_option maxHeartbeats 2000000 in
theorem c80kn (s : ByteArray) (p : Nat) (w : World) (hs : s.size ≤ 1000) (hp : p + 1 < s.size) (hb : gb s p = 123) (h3 : kindO (gb s (p + 1)) ≠ 3) :
    Calls Tryz.prog 77 #[.string s, .int .i64 p] w fun e w' => e = .returned (.agg (agV s p)) ∧ Below w.heap.size w w' := by
  have hp0 : p < s.size := by omega
  have hg := gb_in s p hp0
  have ht : ((s[p].toNat : Int) != 123) = false := by rw [← hg, hb]; decide
  have hg1 := gb_in s (p + 1) hp
  have Hk : Hid (∀ w, Calls Tryz.prog 99 #[.int .u8 ((s[p + 1]'hp).toNat : Int)] w fun e w' => e = .returned (.int .i64 (kindO (gb s (p + 1)))) ∧ w' = w) := by
    intro w; rw [hg1]; exact c90 _ w (byS_ge _) (byS_le _)
  have hfm : frm s p = p + 2 := by unfold frm; rw [if_neg h3]
  have hf2 := frm_range s p hp
  have hge : frm s p ≤ nend s p := skp_ge s az (frm s p)
  have hle : nend s p ≤ s.size := skp_le s az (frm s p) hf2.2
  have Hl : Hid (∀ w, Calls Tryz.prog 100 #[.string s, .int .i64 ((p : Int) + 2)] w fun e w' => e = .returned (.int .i64 (nend s p)) ∧ w' = w) := by
    intro w
    have := c91 s (frm s p) w hs hf2.2
    have e : ((frm s p : Nat) : Int) = (p : Int) + 2 := by omega
    rw [e] at this
    exact this
  have Hn : Hid (∀ w, Calls Tryz.prog 101 #[.int .i64 (kindO (gb s (p + 1))), .int .i64 ((nend s p : Int) - ((p : Int) + 2))] w fun e w' => e = .returned (.bool (fitsK (kindO (gb s (p + 1))) (nend s p - frm s p))) ∧ w' = w) :=
    fun w => c92 _ _ _ w (by omega)
  have HK3 := hidS h3
  have HD : Hid (isAc s p = (fitsK (kindO (gb s (p + 1))) (nend s p - frm s p) && decide (nend s p < s.size ∧ gb s (nend s p) = 125))) := by
    show _ = _; unfold isAc; simp [hp, hb]
  have HV : Hid (isAc s p = true → agV s p = #[.int .i64 (kindO (gb s (p + 1))), .string (s.extract (frm s p) (nend s p)), .int .i64 p, .int .i64 (nend s p + 1), .string ⟨#[]⟩]) := by
    intro h
    have e : act s p = ⟨kindO (gb s (p + 1)), s.extract (frm s p) (nend s p), nend s p + 1⟩ := by rw [act, if_pos h]
    have ne : (act s p).kind ≠ 0 := by
      intro z
      rw [e] at z
      have z' : kindO (gb s (p + 1)) = 0 := z
      have h' := h
      simp only [isAc, z', Bool.and_eq_true] at h'
      simp [fitsK] at h'
    rw [agV, if_neg ne, e]; rfl
  have HN : Hid (isAc s p = false → agV s p = #[.int .i64 0, .string ⟨#[]⟩, .int .i64 0, .int .i64 0, .string ⟨#[]⟩]) := by
    intro h
    apply agV_no
    rw [act, if_neg (by rw [h]; decide)]; rfl
  have hfx : p + 2 ≤ nend s p := by omega
  rw [hfm] at Hn HD HV
  have hk3 : (kindO (gb s (p + 1)) == 3) = false := by simp [h3]
  clear hg hg1 h3 hfm hf2 hge hb
  generalize kindO (gb s (p + 1)) = kk at *
  have hge2 := gb_in s (nend s p)
  generalize nend s p = e1 at *
  cases hF : fitsK kk (e1 - (p + 2))
  · have HA := hidS (HN.out (by rw [HD.out, hF]; rfl))
    go_enter Tryz.func77, Tryz.ntmps77
    go_wp2_with fail
    refine (Hk.out _).mono ?_
    rintro e w' ⟨rfl, hw⟩
    obtain rfl := hw.symm
    go_wp2_with fail
    refine (Hl.out _).mono ?_
    rintro e w' ⟨rfl, hw⟩
    obtain rfl := hw.symm
    go_wp2_with fail
    refine (Hn.out _).mono ?_
    rintro e w' ⟨rfl, hw⟩
    obtain rfl := hw.symm
    rw [hF]
    go_wp2
    refine bodyPost_ret (v := .agg #[.int .i64 0, .string ⟨#[]⟩, .int .i64 0, .int .i64 0, .string ⟨#[]⟩]) (by simp [results, Tryz.results77, go_sem]) rfl ⟨by rw [HA.out], ?_⟩
    exact (Below.refl _ _).alloc (Nat.le_refl _) _
  · by_cases h1 : e1 < s.size
    · have hgg := hge2 h1
      by_cases h2 : gb s e1 = 125
      · have HA := hidS (HV.out (by rw [HD.out, hF]; simp [h1, h2]))
        have ht2 : (((s[e1]'h1).toNat : Int) != 125) = false := by rw [← hgg, h2]; decide
        clear hgg h2 hge2
        go_enter Tryz.func77, Tryz.ntmps77
        go_wp2_with fail
        refine (Hk.out _).mono ?_
        rintro e w' ⟨rfl, hw⟩
        obtain rfl := hw.symm
        go_wp2_with fail
        refine (Hl.out _).mono ?_
        rintro e w' ⟨rfl, hw⟩
        obtain rfl := hw.symm
        go_wp2_with fail
        refine (Hn.out _).mono ?_
        rintro e w' ⟨rfl, hw⟩
        obtain rfl := hw.symm
        rw [hF]
        go_wp2
        refine bodyPost_ret (v := .agg #[.int .i64 kk, .string (s.extract (p + 2) e1), .int .i64 p, .int .i64 (e1 + 1), .string ⟨#[]⟩]) (by simp [results, Tryz.results77, go_sem]) rfl ⟨by rw [HA.out], ?_⟩
        exact (Below.refl _ _).alloc (Nat.le_refl _) _
      · have HA := hidS (HN.out (by rw [HD.out, hF]; simp [h2]))
        have ht2 : (((s[e1]'h1).toNat : Int) != 125) = true := by rw [← hgg]; simpa using h2
        clear hgg h2 hge2
        go_enter Tryz.func77, Tryz.ntmps77
        go_wp2_with fail
        refine (Hk.out _).mono ?_
        rintro e w' ⟨rfl, hw⟩
        obtain rfl := hw.symm
        go_wp2_with fail
        refine (Hl.out _).mono ?_
        rintro e w' ⟨rfl, hw⟩
        obtain rfl := hw.symm
        go_wp2_with fail
        refine (Hn.out _).mono ?_
        rintro e w' ⟨rfl, hw⟩
        obtain rfl := hw.symm
        rw [hF]
        go_wp2
        refine bodyPost_ret (v := .agg #[.int .i64 0, .string ⟨#[]⟩, .int .i64 0, .int .i64 0, .string ⟨#[]⟩]) (by simp [results, Tryz.results77, go_sem]) rfl ⟨by rw [HA.out], ?_⟩
        exact (Below.refl _ _).alloc (Nat.le_refl _) _
    · have HA := hidS (HN.out (by rw [HD.out, hF]; simp [h1]))
      clear hge2
      go_enter Tryz.func77, Tryz.ntmps77
      go_wp2_with fail
      refine (Hk.out _).mono ?_
      rintro e w' ⟨rfl, hw⟩
      obtain rfl := hw.symm
      go_wp2_with fail
      refine (Hl.out _).mono ?_
      rintro e w' ⟨rfl, hw⟩
      obtain rfl := hw.symm
      go_wp2_with fail
      refine (Hn.out _).mono ?_
      rintro e w' ⟨rfl, hw⟩
      obtain rfl := hw.symm
      rw [hF]
      go_wp2
      refine bodyPost_ret (v := .agg #[.int .i64 0, .string ⟨#[]⟩, .int .i64 0, .int .i64 0, .string ⟨#[]⟩]) (by simp [results, Tryz.results77, go_sem]) rfl ⟨by rw [HA.out], ?_⟩
      exact (Below.refl _ _).alloc (Nat.le_refl _) _
theorem c80 (s : ByteArray) (p : Nat) (w : World) (hs : s.size ≤ 1000) (hp : p < s.size) :
    Calls Tryz.prog 77 #[.string s, .int .i64 p] w fun e w' => e = .returned (.agg (agV s p)) ∧ Below w.heap.size w w' := by
  by_cases h : p + 1 < s.size ∧ gb s p = 123
  · by_cases h3 : kindO (gb s (p + 1)) = 3
    · exact c80k3 s p w hs h.1 h.2 h3
    · exact c80kn s p w hs h.1 h.2 h3
  · exact c80no s p w hs hp h
end Go.Proofs.YtffkejkgkgfnhabGreat
