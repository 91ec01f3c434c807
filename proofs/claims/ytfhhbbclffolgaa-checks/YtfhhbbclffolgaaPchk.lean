import Derived.Test.YtfhhbbclffolgaaPread
namespace Go.Proofs.Ytfhhbbclffolgaa
open Go.RowKit
set_option linter.unusedVariables false
theorem ActsR.at : ∀ (A : List Ak) (xs : List Value) (i : Nat) (hi : i < A.length), ActsR A xs → xs[i * 4]? = some (.int .i64 A[i].kind) ∧ xs[i * 4 + 1]? = some (.string A[i].name) ∧ xs[i * 4 + 2]? = some (.int .i64 A[i].at')
  | [], xs, i, hi, h => absurd hi (by simp)
  | a :: r, xs, 0, hi, h => by
    obtain ⟨nx, ys, rfl, h2⟩ := h
    exact ⟨rfl, rfl, rfl⟩
  | a :: r, xs, i + 1, hi, h => by
    obtain ⟨nx, ys, rfl, h2⟩ := h
    have hi' : i < r.length := by simpa using hi
    obtain ⟨k1, k2, k3⟩ := ActsR.at r ys i hi' h2
    have sh : ∀ j, (akC a nx ++ ys)[(i + 1) * 4 + j]? = ys[i * 4 + j]? := by
      intro j
      rw [List.getElem?_append_right (by simp [akC]; omega)]
      congr 1
      simp [akC]; omega
    have sh0 := sh 0
    simp only [Nat.add_zero] at sh0
    exact ⟨by rw [sh0]; exact k1, by rw [sh]; exact k2, by rw [sh]; exact k3⟩
def AkAt (w : World) (g : Nat) (A : List Ak) : Prop := ∀ (i : Nat) (hi : i < A.length), w.cell? ⟨g, i * 4, none⟩ = some (.int .i64 A[i].kind) ∧ w.cell? ⟨g, i * 4 + 1, none⟩ = some (.string A[i].name) ∧ w.cell? ⟨g, i * 4 + 2, none⟩ = some (.int .i64 A[i].at')
theorem akAt {w : World} {B : Nat} {aa : Option Addr} {ac : Nat} {A : List Ak} {xs : List Value} (h : w.ownsRow B 113 4 (.slice aa A.length ac) A.length xs) (hr : ActsR A xs) : A = [] ∨ ∃ g, aa = some ⟨g, 0, none⟩ ∧ A.length ≤ ac ∧ ac ≤ maxLen ∧ AkAt w g A := by
  rcases h.2 with ⟨_, h0⟩ | ⟨g, cap, cur, hv, hb, hg, hn, hm, hs, ht⟩
  · exact .inl (List.length_eq_zero_iff.1 h0)
  · right
    simp at hv
    obtain ⟨hv1, rfl⟩ := hv
    refine ⟨g, hv1, hn, hm, fun i hi => ?_⟩
    obtain ⟨k1, k2, k3⟩ := ActsR.at A xs i hi hr
    have tk : ∀ j, j < A.length * 4 → xs[j]? = cur[j]? := by
      intro j hj; rw [← ht, List.getElem?_take_of_lt hj]; simp
    rw [tk _ (by omega)] at k1 k2 k3
    exact ⟨by rw [cell_of_heap hg]; exact k1, by rw [cell_of_heap hg]; exact k2, by rw [cell_of_heap hg]; exact k3⟩
def hitB (nm : ByteArray) (L : List Ak) : Bool := seenB (names L) nm
theorem hit_nil (nm : ByteArray) : hitB nm [] = false := rfl
theorem hit_yes (nm : ByteArray) (a : Ak) (r : List Ak) (h : a.kind = 1) (h2 : nmEq a.name nm = true) : hitB nm (a :: r) = true := by simp [hitB, names, seenB, h, h2]
theorem hit_no (nm : ByteArray) (a : Ak) (r : List Ak) (h : a.kind ≠ 1 ∨ nmEq a.name nm = false) : hitB nm (a :: r) = hitB nm r := by
  rcases h with h | h
  · simp [hitB, names, seenB, h]
  · by_cases h1 : a.kind = 1 <;> simp [hitB, names, seenB, h, h1]
theorem drop_take_cons (A : List Ak) (n k : Nat) (hk : k < n) (hn : n ≤ A.length) : (A.take n).drop k = A[k]'(by omega) :: (A.take n).drop (k + 1) := by
  rw [List.drop_eq_getElem_cons (by simp; omega)]; simp
set_option maxHeartbeats 2000000 in
theorem c82 (w : World) (g ac n : Nat) (A : List Ak) (nm : ByteArray) (hn : n ≤ A.length) (hA : A.length ≤ 1000) (hat : AkAt w g A) :
    Calls Try.prog 82 #[.slice (some ⟨g, 0, none⟩) n ac, .string nm] w fun e w' => e = .returned (.bool (hitB nm (A.take n))) ∧ w' = w := by
  have HAT := hidS hat
  clear hat
  go_enter Try.func82, Try.ntmps82
  go_wp2
  go_loop [5] (fun i => ∃ k : Nat, k ≤ n ∧ i = .int .i64 k ∧ Hid (hitB nm (A.take n) = hitB nm ((A.take n).drop k))) (fun i => n - (intOf i).toNat)
  case atStart => exact ⟨0, Nat.zero_le _, rfl, rfl⟩
  case round =>
    obtain ⟨k, hk, rfl, H⟩ := hrel
    by_cases hlt : k < n
    · obtain ⟨c0, c1, _⟩ := HAT.out k (by omega)
      have HS := hidS (drop_take_cons A n k hlt hn)
      by_cases h1 : (A[k]'(by omega)).kind = 1
      · have e1 : ((A[k]'(by omega)).kind == 1) = true := by simp [h1]
        cases hB : nmEq (A[k]'(by omega)).name nm
        · have HF : Hid (hitB nm (A.take n) = hitB nm ((A.take n).drop (k + 1))) := by show _ = _; rw [H.out, HS.out, hit_no nm _ _ (.inr hB)]
          unfold nmEq at hB
          clear H HS h1
          go_wp2
          go_round
          case rel => exact ⟨k + 1, by omega, by go_num, HF.out⟩
          case measure => simp [intOf]; omega
        · have HF : Hid (hitB nm (A.take n) = true) := by show _ = _; rw [H.out, HS.out, hit_yes nm _ _ h1 hB]
          unfold nmEq at hB
          clear H HS h1
          go_wp2
          go_ret
          exact ⟨retS_bool HF.out.symm, rfl⟩
      · have e1 : ((A[k]'(by omega)).kind == 1) = false := by simp [h1]
        have HF : Hid (hitB nm (A.take n) = hitB nm ((A.take n).drop (k + 1))) := by show _ = _; rw [H.out, HS.out, hit_no nm _ _ (.inl h1)]
        clear H HS h1
        go_wp2
        go_round
        case rel => exact ⟨k + 1, by omega, by go_num, HF.out⟩
        case measure => simp [intOf]; omega
    · have HF : Hid (hitB nm (A.take n) = false) := by show _ = _; rw [H.out, List.drop_eq_nil_of_le (by simp; omega)]; rfl
      go_wp2
      go_ret
      exact ⟨retS_bool HF.out.symm, rfl⟩
theorem drew_more {w wr : World} (h : ∃ nd, wr = w.drewN nd) (n : Nat) : ∃ nd, wr.drewN n = w.drewN nd := by
  obtain ⟨m, rfl⟩ := h
  exact ⟨m + n, by simp [World.drewN, Nat.add_assoc]⟩
theorem tw_at (A : List Ak) (k : Nat) (hk : k < A.length) : twA (names (A.take k)) (A.drop k) = if A[k].kind = 1 then (if hitB A[k].name (A.take k) then (A[k].at' : Int) else twA (names (A.take (k + 1))) (A.drop (k + 1))) else twA (names (A.take (k + 1))) (A.drop (k + 1)) := by
  rw [List.drop_eq_getElem_cons hk, List.take_succ_eq_append_getElem hk, names_append]
  simp only [twA, hitB]
  by_cases h : A[k].kind = 1
  · have : names [A[k]] = [A[k].name] := by simp [names, h]
    rw [if_pos h, if_pos h, this]
    first | rfl | (split <;> simp_all)
  · have : names [A[k]] = [] := by simp [names, h]
    rw [if_neg h, if_neg h, this, List.append_nil]
set_option maxRecDepth 100000 in
set_option maxHeartbeats 4000000 in
theorem c57 (w : World) (g ac : Nat) (A : List Ak) (hA : A.length ≤ 1000) (hc : A.length ≤ ac) (hm : ac ≤ maxLen) (hat : AkAt w g A) :
    Calls Try.prog 57 #[.slice (some ⟨g, 0, none⟩) A.length ac] w fun e w' => (∃ n, w' = w.drewN n) ∧ ((0 ≤ twA [] A ∧ e = .returned (.tuple #[.int .i64 (twA [] A), .bool true])) ∨ (twA [] A = -1 ∧ e = .returned (.tuple #[.int .i64 0, .bool false]))) := by
  have HAT := hidS hat
  have Hc := hidS (fun wx (hx : AkAt wx g A) n nm (hn : n ≤ A.length) => c82 wx g ac n A nm hn hA hx)
  clear hat
  unfold maxLen at hm
  go_enter Try.func57, Try.ntmps57
  go_wp2
  go_loopw [4] (fun i wr => ∃ k : Nat, k ≤ A.length ∧ i = .int .i64 k ∧ Hid (∃ nd, wr = w.drewN nd) ∧ Hid (AkAt wr g A) ∧ Hid (twA [] A = twA (names (A.take k)) (A.drop k))) (fun i _ => A.length - (intOf i).toNat)
  case atStart => exact ⟨0, Nat.zero_le _, rfl, ⟨0, rfl⟩, HAT.out, rfl⟩
  case round =>
    clear HAT
    obtain ⟨k, hk, rfl, HW, HAT, H⟩ := hrel
    by_cases hlt : k < A.length
    · obtain ⟨c0, c1, c2⟩ := HAT.out k hlt
      have HS := hidS (tw_at A k hlt)
      have b1 : (k : Int) < (A.length : Int) := by omega
      have b2 : (k : Int) ≤ (ac : Int) := by omega
      by_cases h1 : A[k].kind = 1
      · have e1 : (A[k].kind == 1) = true := by simp [h1]
        cases hB : hitB A[k].name (A.take k)
        · have HF : Hid (twA [] A = twA (names (A.take (k + 1))) (A.drop (k + 1))) := by show _ = _; rw [H.out, HS.out, if_pos h1, if_neg (by rw [hB]; decide)]
          clear H HS h1
          go_wp2
          go_quiet ((go_at_call 82; refine Calls.quiet_of_same (Hc.out _ ?_ k A[k].name ?_); (intro i hi; exact HAT.out i hi); omega))
          go_wp2
          go_roundw
          case rel => exact ⟨k + 1, by omega, by go_num, drew_more HW.out _, (fun i hi => HAT.out i hi), HF.out⟩
          case measure => simp [intOf]; omega
        · have HF : Hid (twA [] A = A[k].at') := by show _ = _; rw [H.out, HS.out, if_pos h1, if_pos hB]
          clear H HS h1
          go_wp2
          go_quiet ((go_at_call 82; refine Calls.quiet_of_same (Hc.out _ ?_ k A[k].name ?_); (intro i hi; exact HAT.out i hi); omega))
          go_wp2
          go_ret2
          exact ⟨drew_more HW.out _, .inl ⟨by rw [HF.out]; omega, by rw [HF.out]; rfl⟩⟩
      · have e1 : (A[k].kind == 1) = false := by simp [h1]
        have HF : Hid (twA [] A = twA (names (A.take (k + 1))) (A.drop (k + 1))) := by show _ = _; rw [H.out, HS.out, if_neg h1]
        clear H HS h1
        go_wp2
        go_quiet (fail)
        go_wp2
        go_roundw
        case rel => exact ⟨k + 1, by omega, by go_num, drew_more HW.out _, (fun i hi => HAT.out i hi), HF.out⟩
        case measure => simp [intOf]; omega
    · have HF : Hid (twA [] A = -1) := by show _ = _; rw [H.out, List.drop_eq_nil_of_le (by omega)]; rfl
      go_wp2
      go_ret2
      exact ⟨HW.out, .inr ⟨HF.out, rfl⟩⟩
theorem un_at (has : ByteArray → Bool) (A : List Ak) (k : Nat) (hk : k < A.length) : unA has (A.drop k) = if A[k].kind = 8 ∧ has A[k].name = false then (A[k].at' : Int) else unA has (A.drop (k + 1)) := by
  rw [List.drop_eq_getElem_cons hk]; rfl
set_option maxRecDepth 100000 in
set_option maxHeartbeats 4000000 in
theorem c58 (w : World) (g ac : Nat) (A : List Ak) (hA : A.length ≤ 1000) (hat : AkAt w g A) :
    Calls Try.prog 58 #[.slice (some ⟨g, 0, none⟩) A.length ac] w fun e w' => w' = w ∧ ((0 ≤ unA (seenB (names A)) A ∧ e = .returned (.tuple #[.int .i64 (unA (seenB (names A)) A), .bool true])) ∨ (unA (seenB (names A)) A = -1 ∧ e = .returned (.tuple #[.int .i64 0, .bool false]))) := by
  have HAT := hidS hat
  have Hc : Hid (∀ nm, Calls Try.prog 82 #[.slice (some ⟨g, 0, none⟩) A.length ac, .string nm] w fun e w' => e = .returned (.bool (seenB (names A) nm)) ∧ w' = w) := by
    intro nm
    have := c82 w g ac A.length A nm (Nat.le_refl _) hA hat
    rw [List.take_length] at this
    exact this
  clear hat
  go_enter Try.func58, Try.ntmps58
  go_wp2
  go_loop [4] (fun i => ∃ k : Nat, k ≤ A.length ∧ i = .int .i64 k ∧ Hid (unA (seenB (names A)) A = unA (seenB (names A)) (A.drop k))) (fun i => A.length - (intOf i).toNat)
  case atStart => exact ⟨0, Nat.zero_le _, rfl, rfl⟩
  case round =>
    obtain ⟨k, hk, rfl, H⟩ := hrel
    by_cases hlt : k < A.length
    · obtain ⟨c0, c1, c2⟩ := HAT.out k hlt
      have HS := hidS (un_at (seenB (names A)) A k hlt)
      by_cases h1 : A[k].kind = 8
      · have e1 : (A[k].kind == 8) = true := by simp [h1]
        cases hB : seenB (names A) A[k].name
        · have HF : Hid (unA (seenB (names A)) A = A[k].at') := by show _ = _; rw [H.out, HS.out, if_pos ⟨h1, hB⟩]
          clear H HS h1
          go_wp2_with (go_at_call 82; refine (Hc.out _).mono ?_; rintro e w' ⟨rfl, hw⟩; obtain rfl := hw.symm)
          go_ret2
          exact ⟨rfl, .inl ⟨by rw [HF.out]; omega, by rw [HF.out]; rfl⟩⟩
        · have HF : Hid (unA (seenB (names A)) A = unA (seenB (names A)) (A.drop (k + 1))) := by show _ = _; rw [H.out, HS.out, if_neg (by rw [hB]; simp)]
          clear H HS h1
          go_wp2_with (go_at_call 82; refine (Hc.out _).mono ?_; rintro e w' ⟨rfl, hw⟩; obtain rfl := hw.symm)
          go_round
          case rel => exact ⟨k + 1, by omega, by go_num, HF.out⟩
          case measure => simp [intOf]; omega
      · have e1 : (A[k].kind == 8) = false := by simp [h1]
        have HF : Hid (unA (seenB (names A)) A = unA (seenB (names A)) (A.drop (k + 1))) := by show _ = _; rw [H.out, HS.out, if_neg (fun h => h1 h.1)]
        clear H HS h1
        go_wp2
        go_round
        case rel => exact ⟨k + 1, by omega, by go_num, HF.out⟩
        case measure => simp [intOf]; omega
    · have HF : Hid (unA (seenB (names A)) A = -1) := by show _ = _; rw [H.out, List.drop_eq_nil_of_le (by omega)]; rfl
      go_wp2
      go_ret2
      exact ⟨rfl, .inr ⟨HF.out, rfl⟩⟩
/-! ### Check -/
theorem fin_ne (s : ByteArray) (A : List Ak) (h : Ends s init (.fin A)) : A ≠ [] := by
  obtain ⟨d, hr, hs, _⟩ := h
  have key : ∀ c, Reach s init c → c.nt = 0 ∨ c.acts ≠ [] := by
    intro c hc
    have gen : ∀ a b, Reach s a b → (a.nt = 0 ∨ a.acts ≠ []) → (b.nt = 0 ∨ b.acts ≠ []) := by
      intro a b hab
      induction hab with
      | refl c => exact fun h => h
      | @step c d e h r ih =>
        intro hc'
        apply ih
        unfold stepC at h
        split at h
        · split at h
          · cases h; exact hc'
          · split at h
            · cases h
            · cases h; right; simp
        · split at h <;> cases h
    exact gen init c hc (.inl rfl)
  have := key d hr
  unfold stepC at hs
  split at hs
  · split at hs
    · cases hs
    · split at hs <;> cases hs
  · split at hs
    · cases hs
    · rename_i hne
      cases hs
      rcases this with h | h
      · exact absurd (.inr h) hne
      · exact h
set_option maxHeartbeats 4000000 in
theorem c30 (s : ByteArray) (w : World) (hm : s.size ≤ maxLen) : Calls Try.prog 30 #[.string s] w fun e w' => Below w.heap.size w w' ∧ ∃ x y, e = .returned (.tuple #[.int .i64 x, .int .i64 y]) ∧ ChkS s x y := by
  unfold maxLen at hm
  by_cases hs : s.size ≤ 400
  · have Hc := hidS (c56 s w (by omega))
    go_enter Try.func30, Try.ntmps30
    go_wp2_with fail
    refine Hc.out.mono ?_
    clear Hc
    rintro e w1 ⟨hb1, hor⟩
    rcases hor with ⟨er, rfl, hE⟩ | ⟨aa, ac, A, xs, rfl, hE, hown, hact, hA⟩
    · have HE : Hid (ChkS s 2 er) := .inr ⟨hs, .inl ⟨er, hE, rfl, rfl⟩⟩
      clear hE
      go_wp2
      go_ret2
      exact ⟨hb1, 2, er, rfl, HE.out⟩
    · rcases akAt hown hact with h0 | ⟨g, rfl, hc1, hc2, hat⟩
      · exact absurd h0 (fin_ne s A hE)
      · have HE := hidS hE
        have Ht := hidS (c57 w1 g ac A hA hc1 hc2 hat)
        have Hu := hidS (fun wx (hx : AkAt wx g A) => c58 wx g ac A hA hx)
        have HAT := hidS hat
        clear hE hown hact hat
        go_wp2_with fail
        refine Ht.out.mono ?_
        rintro e w2 ⟨⟨nd, hw2⟩, hor⟩
        have hb2 : Below w.heap.size w w2 := by rw [hw2]; exact below_drewN hb1 nd
        have HAT2 : Hid (AkAt w2 g A) := by rw [hw2]; exact HAT.out
        clear hw2
        rcases hor with ⟨ht1, rfl⟩ | ⟨ht1, rfl⟩
        · have HF : Hid (ChkS s 3 (twA [] A)) := .inr ⟨hs, .inr ⟨A, HE.out, .inl ⟨ht1, rfl, rfl⟩⟩⟩
          generalize twA [] A = T at *
          go_wp2
          go_ret2
          exact ⟨hb2, 3, T, rfl, HF.out⟩
        · have HT1 := hidS ht1
          clear ht1
          go_wp2_with fail
          refine (Hu.out w2 HAT2.out).mono ?_
          rintro e w3 ⟨hw3, hor3⟩
          obtain rfl := hw3.symm
          rcases hor3 with ⟨hu1, rfl⟩ | ⟨hu1, rfl⟩
          · have HF : Hid (ChkS s 4 (unA (seenB (names A)) A)) := .inr ⟨hs, .inr ⟨A, HE.out, .inr (.inl ⟨HT1.out, hu1, rfl, rfl⟩)⟩⟩
            generalize unA (seenB (names A)) A = T at *
            go_wp2
            go_ret2
            exact ⟨hb2, 4, T, rfl, HF.out⟩
          · have HF : Hid (ChkS s 0 0) := .inr ⟨hs, .inr ⟨A, HE.out, .inr (.inr ⟨HT1.out, by omega, rfl, rfl⟩)⟩⟩
            clear hu1
            go_wp2
            go_ret2
            exact ⟨hb2, 0, 0, rfl, HF.out⟩
  · have HF : Hid (ChkS s 1 0) := .inl ⟨by omega, rfl, rfl⟩
    go_enter Try.func30, Try.ntmps30
    go_wp2
    go_ret2
    exact ⟨Below.refl _ _, 1, 0, rfl, HF.out⟩
set_option maxHeartbeats 400000 in
theorem c20 (s : ByteArray) (w : World) (hm : s.size ≤ maxLen) : Calls Try.prog 20 #[.string s] w fun e w' => Below w.heap.size w w' ∧ ∃ x y, e = .returned (.tuple #[.int .i64 x, .int .i64 y]) ∧ ChkS s x y := by
  go_enter Try.func20, Try.ntmps20
  go_wp2_with fail
  refine (c30 s w hm).mono ?_
  rintro e w1 ⟨hb, x, y, rfl, h⟩
  have H := hidS h
  clear h
  go_wp2
  go_ret2
  exact ⟨hb, x, y, rfl, H.out⟩
set_option maxHeartbeats 1000000 in
theorem c21 (s : ByteArray) (w : World) (hm : s.size ≤ maxLen) : Calls Try.prog 21 #[.string s] w fun e w' => Below w.heap.size w w' ∧ ∃ x y, e = .returned (.tuple #[.int .i64 x, .int .i64 y]) ∧ ChkS s x y := by
  by_cases hs : s.size ≤ 400
  · go_enter Try.func21, Try.ntmps21
    go_wp2_with fail
    refine (c31 s w hs).mono ?_
    rintro e w1 ⟨hb, hor⟩
    rcases hor with ⟨er, rfl, hE⟩ | ⟨a, c, ts, A, hT, hE, _, _, hO⟩
    · have HE : Hid (ChkS s 2 er) := .inr ⟨hs, .inl ⟨er, hE, rfl, rfl⟩⟩
      clear hE
      go_wp2
      go_ret2
      exact ⟨hb, 2, er, rfl, HE.out⟩
    · obtain ⟨v, x, y, rfl, hC⟩ := chk_of_read s ts A a c e hT hO
      have HE : Hid (ChkS s x y) := .inr ⟨hs, .inr ⟨A, hE, hC⟩⟩
      clear hE hT hO hC
      go_wp2
      go_ret2
      exact ⟨hb, x, y, rfl, HE.out⟩
  · have HF : Hid (ChkS s 1 0) := .inl ⟨by omega, rfl, rfl⟩
    go_enter Try.func21, Try.ntmps21
    go_wp2_with fail
    refine (c31long s w (by omega) hm).mono ?_
    rintro e w1 ⟨rfl, rfl⟩
    go_wp2
    go_ret2
    exact ⟨Below.refl _ _, 1, 0, rfl, HF.out⟩
end Go.Proofs.Ytfhhbbclffolgaa
