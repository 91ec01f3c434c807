import Derived.Test.YtffkejkgkgfnhabGreatG27
import Derived.Test.YtffkejkgkgfnhabGreatG11
import Derived.SizedLaws
namespace Go.Proofs.YtffkejkgkgfnhabGreat
open Go.RowKit
set_option linter.unusedVariables false
theorem actsC_at (s : ByteArray) : ∀ (A : List Ak) (p i : Nat) (hi : i < A.length) (j : Nat), j < 5 → (actsC s p A)[i * 5 + j]? = (akC s (lastN s p (A.take i)) A[i])[j]?
  | [], p, i, hi, j, hj => absurd hi (by simp)
  | a :: r, p, 0, hi, j, hj => by
    simp only [actsC, List.take_zero, lastN, List.getElem_cons_zero]
    rw [List.getElem?_append_left (by simp [akC]; omega)]
    congr 1; omega
  | a :: r, p, i + 1, hi, j, hj => by
    have hi' : i < r.length := by simpa using hi
    have := actsC_at s r (act s a.at').next i hi' j hj
    simp only [actsC, List.take_succ_cons, lastN, List.getElem_cons_succ]
    rw [List.getElem?_append_right (by simp [akC]; omega), ← this]
    congr 1
    simp [akC]; omega
/-- the text ahead of an action -/
def hdA (s : ByteArray) (A : List Ak) (i : Nat) : ByteArray := s.extract (lastN s 0 (A.take i)) (match A[i]? with | some a => a.at' | none => 0)
def AkAt (s : ByteArray) (w : World) (g : Nat) (A : List Ak) : Prop := ∀ (i : Nat) (hi : i < A.length), w.cell? ⟨g, i * 5, none⟩ = some (.int .i64 A[i].kind) ∧ w.cell? ⟨g, i * 5 + 1, none⟩ = some (.string A[i].name) ∧ w.cell? ⟨g, i * 5 + 2, none⟩ = some (.int .i64 A[i].at') ∧ w.cell? ⟨g, i * 5 + 4, none⟩ = some (.string (hdA s A i)) ∧ w.cell? ⟨g, i * 5 + 3, none⟩ = some (.int .i64 (act s A[i].at').next)
theorem akAt {s : ByteArray} {w : World} {B : Nat} {aa : Option Addr} {ac : Nat} {A : List Ak} (h : w.ownsRow B 121 5 (.slice aa A.length ac) A.length (actsC s 0 A)) : A = [] ∨ ∃ g, aa = some ⟨g, 0, none⟩ ∧ A.length ≤ ac ∧ ac ≤ maxLen ∧ B ≤ g ∧ g < w.heap.size ∧ AkAt s w g A := by
  have hlt := fun g hg => h.lt g hg
  rcases h.2 with ⟨_, h0⟩ | ⟨g, cap, cur, hv, hb, hg, hn, hm, hs, ht⟩
  · exact .inl (List.length_eq_zero_iff.1 h0)
  · right
    simp at hv
    obtain ⟨hv1, rfl⟩ := hv
    have hl := hlt g (by rw [hv1]; rfl)
    refine ⟨g, hv1, hn, hm, hl.1, hl.2, fun i hi => ?_⟩
    have tk : ∀ j, j < 5 → cur[i * 5 + j]? = (akC s (lastN s 0 (A.take i)) A[i])[j]? := by
      intro j hj
      rw [← actsC_at s A 0 i hi j hj, ← ht, List.getElem?_take_of_lt (by omega)]; simp
    have t0 := tk 0 (by omega)
    have t1 := tk 1 (by omega)
    have t2 := tk 2 (by omega)
    have t3 := tk 3 (by omega)
    have t4 := tk 4 (by omega)
    simp only [Nat.add_zero] at t0
    refine ⟨by rw [cell_of_heap hg, t0]; rfl, by rw [cell_of_heap hg, t1]; rfl, by rw [cell_of_heap hg, t2]; rfl, ?_, by rw [cell_of_heap hg, t3]; rfl⟩
    rw [cell_of_heap hg, t4, hdA, List.getElem?_eq_getElem hi]; rfl
def hitB (nm : ByteArray) (L : List Ak) : Bool := seenB (names L) nm
theorem hit_yes (nm : ByteArray) (a : Ak) (r : List Ak) (h : a.kind = 1) (h2 : nmEq a.name nm = true) : hitB nm (a :: r) = true := by simp [hitB, names, seenB, h, h2]
theorem hit_no (nm : ByteArray) (a : Ak) (r : List Ak) (h : a.kind ≠ 1 ∨ nmEq a.name nm = false) : hitB nm (a :: r) = hitB nm r := by
  rcases h with h | h
  · simp [hitB, names, seenB, h]
  · by_cases h1 : a.kind = 1 <;> simp [hitB, names, seenB, h, h1]
/-- where the template of that name begins; 0, if nowhere -/
def idxA (nm : ByteArray) : List Ak → Nat → Nat
  | [], _ => 0
  | a :: r, k => if a.kind = 1 ∧ nmEq a.name nm = true then k else idxA nm r (k + 1)
theorem idx_yes (nm : ByteArray) (a : Ak) (r : List Ak) (k : Nat) (h : a.kind = 1) (h2 : nmEq a.name nm = true) : idxA nm (a :: r) k = k := by simp only [idxA]; rw [if_pos ⟨h, h2⟩]
theorem idx_no (nm : ByteArray) (a : Ak) (r : List Ak) (k : Nat) (h : a.kind ≠ 1 ∨ nmEq a.name nm = false) : idxA nm (a :: r) k = idxA nm r (k + 1) := by
  simp only [idxA]; rw [if_neg]; rintro ⟨h1, h2⟩; rcases h with h | h
  · exact h h1
  · rw [h] at h2; cases h2
theorem retS_two {a b : Int} {c d : Bool} (h : a = b) (h' : c = d) : Ending.returned (.tuple #[.int .i64 a, .bool c]) = .returned (.tuple #[.int .i64 b, .bool d]) := by rw [h, h']
theorem drop_take_cons (A : List Ak) (n k : Nat) (hk : k < n) (hn : n ≤ A.length) : (A.take n).drop k = A[k]'(by omega) :: (A.take n).drop (k + 1) := by
  rw [List.drop_eq_getElem_cons (by simp; omega)]; simp
set_option maxHeartbeats 2000000 in
theorem c71 (s : ByteArray) (w : World) (g ac n : Nat) (A : List Ak) (nm : ByteArray) (hn : n ≤ A.length) (hA : A.length ≤ 1000) (hat : AkAt s w g A) :
    Calls Tryz.prog 69 #[.slice (some ⟨g, 0, none⟩) n ac, .string nm] w fun e w' => e = .returned (.tuple #[.int .i64 (idxA nm (A.take n) 0), .bool (hitB nm (A.take n))]) ∧ w' = w := by
  have HAT := hidS hat
  clear hat
  go_enter Tryz.func69, Tryz.ntmps69
  go_wp2
  go_loop [6] (fun i => ∃ k : Nat, k ≤ n ∧ i = .int .i64 k ∧ Hid (hitB nm (A.take n) = hitB nm ((A.take n).drop k)) ∧ Hid (idxA nm (A.take n) 0 = idxA nm ((A.take n).drop k) k)) (fun i => n - (intOf i).toNat)
  case atStart => exact ⟨0, Nat.zero_le _, rfl, rfl, rfl⟩
  case round =>
    obtain ⟨k, hk, rfl, H, I⟩ := hrel
    by_cases hlt : k < n
    · obtain ⟨c0, c1, _⟩ := HAT.out k (by omega)
      have HS := hidS (drop_take_cons A n k hlt hn)
      by_cases h1 : (A[k]'(by omega)).kind = 1
      · have e1 : ((A[k]'(by omega)).kind == 1) = true := by simp [h1]
        cases hB : nmEq (A[k]'(by omega)).name nm
        · have HF : Hid (hitB nm (A.take n) = hitB nm ((A.take n).drop (k + 1))) := by show _ = _; rw [H.out, HS.out, hit_no nm _ _ (.inr hB)]
          have IF : Hid (idxA nm (A.take n) 0 = idxA nm ((A.take n).drop (k + 1)) (k + 1)) := by show _ = _; rw [I.out, HS.out, idx_no nm _ _ _ (.inr hB)]
          unfold nmEq at hB
          clear H HS h1 I
          go_wp2
          go_round
          case rel => exact ⟨k + 1, by omega, by go_num, HF.out, IF.out⟩
          case measure => simp [intOf]; omega
        · have HF : Hid (hitB nm (A.take n) = true) := by show _ = _; rw [H.out, HS.out, hit_yes nm _ _ h1 hB]
          have IF : Hid (idxA nm (A.take n) 0 = k) := by show _ = _; rw [I.out, HS.out, idx_yes nm _ _ _ h1 hB]
          unfold nmEq at hB
          clear H HS h1 I
          go_wp2
          go_ret2
          exact ⟨retS_two (by rw [IF.out]) HF.out.symm, rfl⟩
      · have e1 : ((A[k]'(by omega)).kind == 1) = false := by simp [h1]
        have HF : Hid (hitB nm (A.take n) = hitB nm ((A.take n).drop (k + 1))) := by show _ = _; rw [H.out, HS.out, hit_no nm _ _ (.inl h1)]
        have IF : Hid (idxA nm (A.take n) 0 = idxA nm ((A.take n).drop (k + 1)) (k + 1)) := by show _ = _; rw [I.out, HS.out, idx_no nm _ _ _ (.inl h1)]
        clear H HS h1 I
        go_wp2
        go_round
        case rel => exact ⟨k + 1, by omega, by go_num, HF.out, IF.out⟩
        case measure => simp [intOf]; omega
    · have HF : Hid (hitB nm (A.take n) = false) := by show _ = _; rw [H.out, List.drop_eq_nil_of_le (by simp; omega)]; rfl
      have IF : Hid (idxA nm (A.take n) 0 = 0) := by show _ = _; rw [I.out, List.drop_eq_nil_of_le (by simp; omega)]; rfl
      go_wp2
      go_ret2
      exact ⟨retS_two (by rw [IF.out]; rfl) HF.out.symm, rfl⟩
theorem drew_more {w wr : World} (h : ∃ nd, wr = w.drewN nd) (n : Nat) : ∃ nd, wr.drewN n = w.drewN nd := by
  obtain ⟨m, rfl⟩ := h
  exact ⟨m + n, by simp [World.drewN, Nat.add_assoc]⟩
theorem tw_at (A : List Ak) (k : Nat) (hk : k < A.length) : twA (names (A.take k)) (A.drop k) = if A[k].kind = 1 then (if hitB A[k].name (A.take k) then (A[k].at' : Int) else twA (names (A.take (k + 1))) (A.drop (k + 1))) else twA (names (A.take (k + 1))) (A.drop (k + 1)) := by
  rw [List.drop_eq_getElem_cons hk, List.take_succ_eq_append_getElem hk, names_append]
  simp only [twA, hitB]
  by_cases h : A[k].kind = 1
  · have : names [A[k]] = [A[k].name] := by simp [names, h]
    rw [if_pos h, if_pos h, this]
    first | rfl | (split <;> simp_all)
  · have : names [A[k]] = [] := by simp [names, h]
    rw [if_neg h, if_neg h, this, List.append_nil]
set_option maxRecDepth 100000 in
set_option maxHeartbeats 4000000 in
theorem c57 (s : ByteArray) (w : World) (g ac : Nat) (A : List Ak) (hA : A.length ≤ 1000) (hc : A.length ≤ ac) (hm : ac ≤ maxLen) (hat : AkAt s w g A) :
    Calls Tryz.prog 51 #[.slice (some ⟨g, 0, none⟩) A.length ac] w fun e w' => (∃ n, w' = w.drewN n) ∧ ((0 ≤ twA [] A ∧ e = .returned (.tuple #[.int .i64 (twA [] A), .bool true])) ∨ (twA [] A = -1 ∧ e = .returned (.tuple #[.int .i64 0, .bool false]))) := by
  have HAT := hidS hat
  have Hc := hidS (fun wx (hx : AkAt s wx g A) n nm (hn : n ≤ A.length) => c71 s wx g ac n A nm hn hA hx)
  clear hat
  unfold maxLen at hm
  go_enter Tryz.func51, Tryz.ntmps51
  go_wp2
  go_loopw [4] (fun i wr => ∃ k : Nat, k ≤ A.length ∧ i = .int .i64 k ∧ Hid (∃ nd, wr = w.drewN nd) ∧ Hid (AkAt s wr g A) ∧ Hid (twA [] A = twA (names (A.take k)) (A.drop k))) (fun i _ => A.length - (intOf i).toNat)
  case atStart => exact ⟨0, Nat.zero_le _, rfl, ⟨0, rfl⟩, HAT.out, rfl⟩
  case round =>
    clear HAT
    obtain ⟨k, hk, rfl, HW, HAT, H⟩ := hrel
    by_cases hlt : k < A.length
    · obtain ⟨c0, c1, c2, _⟩ := HAT.out k hlt
      have HS := hidS (tw_at A k hlt)
      have b1 : (k : Int) < (A.length : Int) := by omega
      have b2 : (k : Int) ≤ (ac : Int) := by omega
      by_cases h1 : A[k].kind = 1
      · have e1 : (A[k].kind != 1) = false := by simp [h1]
        cases hB : hitB A[k].name (A.take k)
        · have HF : Hid (twA [] A = twA (names (A.take (k + 1))) (A.drop (k + 1))) := by show _ = _; rw [H.out, HS.out, if_pos h1, if_neg (by rw [hB]; decide)]
          clear H HS h1
          go_wp2
          go_quiet ((go_at_call 69; refine Calls.quiet_of_same (Hc.out _ ?_ k A[k].name ?_); (intro i hi; exact HAT.out i hi); omega))
          go_wp2
          go_roundw
          case rel => exact ⟨k + 1, by omega, by go_num, drew_more HW.out _, (fun i hi => HAT.out i hi), HF.out⟩
          case measure => simp [intOf]; omega
        · have HF : Hid (twA [] A = A[k].at') := by show _ = _; rw [H.out, HS.out, if_pos h1, if_pos hB]
          clear H HS h1
          go_wp2
          go_quiet ((go_at_call 69; refine Calls.quiet_of_same (Hc.out _ ?_ k A[k].name ?_); (intro i hi; exact HAT.out i hi); omega))
          go_wp2
          go_ret2
          exact ⟨drew_more HW.out _, .inl ⟨by rw [HF.out]; omega, by rw [HF.out]; rfl⟩⟩
      · have e1 : (A[k].kind != 1) = true := by simp [h1]
        have HF : Hid (twA [] A = twA (names (A.take (k + 1))) (A.drop (k + 1))) := by show _ = _; rw [H.out, HS.out, if_neg h1]
        clear H HS h1
        go_wp2
        exact ⟨⟨k + 1, by omega, by go_num, HW.out, (fun i hi => HAT.out i hi), HF.out⟩, by simp [intOf]; omega⟩
    · have HF : Hid (twA [] A = -1) := by show _ = _; rw [H.out, List.drop_eq_nil_of_le (by omega)]; rfl
      go_wp2
      go_ret2
      exact ⟨HW.out, .inr ⟨HF.out, rfl⟩⟩
theorem un_at (has : ByteArray → Bool) (A : List Ak) (k : Nat) (hk : k < A.length) : unA has (A.drop k) = if A[k].kind = 8 ∧ has A[k].name = false then (A[k].at' : Int) else unA has (A.drop (k + 1)) := by
  rw [List.drop_eq_getElem_cons hk]; rfl
set_option maxRecDepth 100000 in
set_option maxHeartbeats 4000000 in
theorem c58 (s : ByteArray) (w : World) (g ac : Nat) (A : List Ak) (hA : A.length ≤ 1000) (hat : AkAt s w g A) :
    Calls Tryz.prog 52 #[.slice (some ⟨g, 0, none⟩) A.length ac] w fun e w' => w' = w ∧ ((0 ≤ unA (seenB (names A)) A ∧ e = .returned (.tuple #[.int .i64 (unA (seenB (names A)) A), .bool true])) ∨ (unA (seenB (names A)) A = -1 ∧ e = .returned (.tuple #[.int .i64 0, .bool false]))) := by
  have HAT := hidS hat
  have Hc : Hid (∀ nm, Calls Tryz.prog 69 #[.slice (some ⟨g, 0, none⟩) A.length ac, .string nm] w fun e w' => e = .returned (.tuple #[.int .i64 (idxA nm A 0), .bool (seenB (names A) nm)]) ∧ w' = w) := by
    intro nm
    have := c71 s w g ac A.length A nm (Nat.le_refl _) hA hat
    rw [List.take_length] at this
    exact this
  clear hat
  go_enter Tryz.func52, Tryz.ntmps52
  go_wp2
  go_loop [4] (fun i => ∃ k : Nat, k ≤ A.length ∧ i = .int .i64 k ∧ Hid (unA (seenB (names A)) A = unA (seenB (names A)) (A.drop k))) (fun i => A.length - (intOf i).toNat)
  case atStart => exact ⟨0, Nat.zero_le _, rfl, rfl⟩
  case round =>
    obtain ⟨k, hk, rfl, H⟩ := hrel
    by_cases hlt : k < A.length
    · obtain ⟨c0, c1, c2, _⟩ := HAT.out k hlt
      have HS := hidS (un_at (seenB (names A)) A k hlt)
      by_cases h1 : A[k].kind = 8
      · have e1 : (A[k].kind != 8) = false := by simp [h1]
        cases hB : seenB (names A) A[k].name
        · have HF : Hid (unA (seenB (names A)) A = A[k].at') := by show _ = _; rw [H.out, HS.out, if_pos ⟨h1, hB⟩]
          clear H HS h1
          go_wp2_with (go_at_call 69; refine (Hc.out _).mono ?_; rintro e w' ⟨rfl, hw⟩; obtain rfl := hw.symm)
          go_ret2
          exact ⟨rfl, .inl ⟨by rw [HF.out]; omega, by rw [HF.out]; rfl⟩⟩
        · have HF : Hid (unA (seenB (names A)) A = unA (seenB (names A)) (A.drop (k + 1))) := by show _ = _; rw [H.out, HS.out, if_neg (by rw [hB]; simp)]
          clear H HS h1
          go_wp2_with (go_at_call 69; refine (Hc.out _).mono ?_; rintro e w' ⟨rfl, hw⟩; obtain rfl := hw.symm)
          go_round
          case rel => exact ⟨k + 1, by omega, by go_num, HF.out⟩
          case measure => simp [intOf]; omega
      · have e1 : (A[k].kind != 8) = true := by simp [h1]
        have HF : Hid (unA (seenB (names A)) A = unA (seenB (names A)) (A.drop (k + 1))) := by show _ = _; rw [H.out, HS.out, if_neg (fun h => h1 h.1)]
        clear H HS h1
        go_wp2
        go_round
        case rel => exact ⟨k + 1, by omega, by go_num, HF.out⟩
        case measure => simp [intOf]; omega
    · have HF : Hid (unA (seenB (names A)) A = -1) := by show _ = _; rw [H.out, List.drop_eq_nil_of_le (by omega)]; rfl
      go_wp2
      go_ret2
      exact ⟨rfl, .inr ⟨HF.out, rfl⟩⟩
theorem fin_ne (s : ByteArray) (A : List Ak) (h : Ends s init (.fin A)) : A ≠ [] := by
  obtain ⟨d, hr, hs, _⟩ := h
  have key : ∀ c, Reach s init c → c.nt = 0 ∨ c.acts ≠ [] := by
    intro c hc
    have gen : ∀ a b, Reach s a b → (a.nt = 0 ∨ a.acts ≠ []) → (b.nt = 0 ∨ b.acts ≠ []) := by
      intro a b hab
      induction hab with
      | refl c => exact fun h => h
      | @step c d e h r ih =>
        intro hc'
        apply ih
        unfold stepC at h
        split at h
        · split at h
          · cases h; exact hc'
          · split at h
            · cases h
            · cases h; right; simp
        · split at h <;> cases h
    exact gen init c hc (.inl rfl)
  have := key d hr
  unfold stepC at hs
  split at hs
  · split at hs
    · cases hs
    · split at hs <;> cases hs
  · split at hs
    · cases hs
    · rename_i hne
      cases hs
      rcases this with h | h
      · exact absurd (.inr h) hne
      · exact h
def LoadPost (s : ByteArray) (w : World) (e : Ending) (w' : World) : Prop :=
  ∃ v x y, e = .returned (.tuple #[v, .int .i64 x, .int .i64 y]) ∧ ChkS s x y ∧ ((x ≠ 0 ∧ v = .slice none 0 0) ∨
    (x = 0 ∧ ∃ (g ac : Nat) (A : List Ak), v = .slice (some ⟨g, 0, none⟩) A.length ac ∧ s.size ≤ 400 ∧ Ends s init (.fin A) ∧ twA [] A = -1 ∧ unA (seenB (names A)) A < 0 ∧ AkAt s w' g A ∧ w.heap.size ≤ g ∧ g < w'.heap.size ∧ A.length ≤ ac ∧ ac ≤ maxLen ∧ A.length ≤ 1000))
set_option maxHeartbeats 4000000 in
theorem c33L (s : ByteArray) (w : World) (hm : s.size ≤ maxLen) : Calls Tryz.prog 30 #[.string s] w fun e w' => Below w.heap.size w w' ∧ LoadPost s w e w' := by
  unfold maxLen at hm
  by_cases hs : s.size ≤ 400
  · have Hc := hidS (c56 s w (by omega))
    go_enter Tryz.func30, Tryz.ntmps30
    go_wp2_with fail
    refine Hc.out.mono ?_
    clear Hc
    rintro e w1 ⟨hb1, hor⟩
    rcases hor with ⟨er, rfl, hE⟩ | ⟨aa, ac, A, rfl, hE, hown, hA⟩
    · have HE : Hid (ChkS s 2 er) := .inr ⟨hs, .inl ⟨er, hE, rfl, rfl⟩⟩
      clear hE
      go_wp2
      go_ret3
      exact ⟨hb1, _, 2, er, rfl, HE.out, .inl ⟨by decide, rfl⟩⟩
    · rcases akAt hown with h0 | ⟨g, rfl, hc1, hc2, hg1, hg2, hat⟩
      · exact absurd h0 (fin_ne s A hE)
      · have HE := hidS hE
        have Ht := hidS (c57 s w1 g ac A hA hc1 hc2 hat)
        have Hu := hidS (fun wx (hx : AkAt s wx g A) => c58 s wx g ac A hA hx)
        have HAT := hidS hat
        clear hE hown hat
        go_wp2_with fail
        refine Ht.out.mono ?_
        rintro e w2 ⟨⟨nd, hw2⟩, hor⟩
        have hb2 : Below w.heap.size w w2 := by rw [hw2]; exact below_drewN hb1 nd
        have HAT2 : Hid (AkAt s w2 g A) := by rw [hw2]; exact HAT.out
        have hgw : g < w2.heap.size := by rw [hw2]; exact hg2
        clear hw2
        rcases hor with ⟨ht1, rfl⟩ | ⟨ht1, rfl⟩
        · have HF : Hid (ChkS s 3 (twA [] A)) := .inr ⟨hs, .inr ⟨A, HE.out, .inl ⟨ht1, rfl, rfl⟩⟩⟩
          generalize twA [] A = T at *
          go_wp2
          go_ret3
          exact ⟨hb2, _, 3, T, rfl, HF.out, .inl ⟨by decide, rfl⟩⟩
        · have HT1 := hidS ht1
          clear ht1
          go_wp2_with fail
          refine (Hu.out w2 HAT2.out).mono ?_
          rintro e w3 ⟨hw3, hor3⟩
          obtain rfl := hw3.symm
          rcases hor3 with ⟨hu1, rfl⟩ | ⟨hu1, rfl⟩
          · have HF : Hid (ChkS s 4 (unA (seenB (names A)) A)) := .inr ⟨hs, .inr ⟨A, HE.out, .inr (.inl ⟨HT1.out, hu1, rfl, rfl⟩)⟩⟩
            generalize unA (seenB (names A)) A = T at *
            go_wp2
            go_ret3
            exact ⟨hb2, _, 4, T, rfl, HF.out, .inl ⟨by decide, rfl⟩⟩
          · have HF : Hid (ChkS s 0 0) := .inr ⟨hs, .inr ⟨A, HE.out, .inr (.inr ⟨HT1.out, by omega, rfl, rfl⟩)⟩⟩
            have HU1 : Hid (unA (seenB (names A)) A < 0) := by show _ < _; omega
            have HB := hidS hb1.size
            clear hu1
            go_wp2
            go_ret3
            exact ⟨hb2, _, 0, 0, rfl, HF.out, .inr ⟨rfl, g, ac, A, rfl, hs, HE.out, HT1.out, HU1.out, HAT2.out, by omega, hgw, hc1, hc2, hA⟩⟩
  · have HF : Hid (ChkS s 1 0) := .inl ⟨by omega, rfl, rfl⟩
    go_enter Tryz.func30, Tryz.ntmps30
    go_wp2
    go_ret3
    exact ⟨Below.refl _ _, _, 1, 0, rfl, HF.out, .inl ⟨by decide, rfl⟩⟩
set_option maxHeartbeats 1000000 in
theorem c30 (s : ByteArray) (w : World) (hm : s.size ≤ maxLen) : Calls Tryz.prog 15 #[.string s] w fun e w' => Below w.heap.size w w' ∧ ∃ x y, e = .returned (.tuple #[.int .i64 x, .int .i64 y]) ∧ ChkS s x y := by
  have Hc := hidS (c33L s w hm)
  go_enter Tryz.func15, Tryz.ntmps15
  go_wp2_with fail
  refine Hc.out.mono ?_
  clear Hc
  rintro e w1 ⟨hb1, v, x, y, rfl, hk, _⟩
  go_wp2
  go_ret2
  exact ⟨hb1, x, y, rfl, hk⟩
set_option maxHeartbeats 400000 in
theorem c20 (s : ByteArray) (w : World) (hm : s.size ≤ maxLen) : Calls Tryz.prog 7 #[.string s] w fun e w' => Below w.heap.size w w' ∧ ∃ x y, e = .returned (.tuple #[.int .i64 x, .int .i64 y]) ∧ ChkS s x y := by
  go_enter Tryz.func7, Tryz.ntmps7
  go_wp2_with fail
  refine (c30 s w hm).mono ?_
  rintro e w1 ⟨hb, x, y, rfl, h⟩
  have H := hidS h
  clear h
  go_wp2
  go_ret2
  exact ⟨hb, x, y, rfl, H.out⟩
set_option maxHeartbeats 1000000 in
theorem c21 (s : ByteArray) (w : World) (hm : s.size ≤ maxLen) : Calls Tryz.prog 8 #[.string s] w fun e w' => Below w.heap.size w w' ∧ ∃ x y, e = .returned (.tuple #[.int .i64 x, .int .i64 y]) ∧ ChkS s x y := by
  by_cases hs : s.size ≤ 400
  · go_enter Tryz.func8, Tryz.ntmps8
    go_wp2_with fail
    refine (c31 s w hs).mono ?_
    rintro e w1 ⟨hb, hor⟩
    rcases hor with ⟨er, rfl, hE⟩ | ⟨a, c, ts, A, hT, hE, _, _, hO⟩
    · have HE : Hid (ChkS s 2 er) := .inr ⟨hs, .inl ⟨er, hE, rfl, rfl⟩⟩
      clear hE
      go_wp2
      go_ret2
      exact ⟨hb, 2, er, rfl, HE.out⟩
    · obtain ⟨v, x, y, rfl, hC⟩ := chk_of_read s ts A a c e hT hO
      have HE : Hid (ChkS s x y) := .inr ⟨hs, .inr ⟨A, hE, hC⟩⟩
      clear hE hT hO hC
      go_wp2
      go_ret2
      exact ⟨hb, x, y, rfl, HE.out⟩
  · have HF : Hid (ChkS s 1 0) := .inl ⟨by omega, rfl, rfl⟩
    go_enter Tryz.func8, Tryz.ntmps8
    go_wp2_with fail
    refine (c31long s w (by omega) hm).mono ?_
    rintro e w1 ⟨rfl, rfl⟩
    go_wp2
    go_ret2
    exact ⟨Below.refl _ _, 1, 0, rfl, HF.out⟩
end Go.Proofs.YtffkejkgkgfnhabGreat
namespace Go.Proofs.YtffkejkgkgfnhabGreat
open Go.ChangeShapes Go.WideShapes Go.ChangeAt Go.RowKit Go.Deep
set_option linter.unusedVariables false
set_option maxHeartbeats 400000 in
theorem c14chk (p : Value) (n : Int) (s t : ByteArray) (d : Value) (w : World) (hs : s.size ≤ maxLen) :
    Calls Tryz.prog 5 #[p, .agg #[.int .i64 1, .int .i64 n, .string s, .string t, d]] w fun e w' => e = .returned (.bool true) ∧ Below w.heap.size w w' := by
  have Hc := hidS (fun w => c20 s w hs)
  have Hr := hidS (fun w => c21 s w hs)
  go_enter Tryz.func5, Tryz.ntmps5
  go_wp2_with fail
  refine (Hc.out _).mono ?_
  rintro e w1 ⟨hb1, x, y, rfl, h1⟩
  have hz : w.heap.size < w1.heap.size := by have := hb1.size; simp at this; omega
  have k2 : w1.cell? ⟨w.heap.size, 2, none⟩ = some (.string s) := (hb1.cell (p := ⟨w.heap.size, 2, none⟩) (by show w.heap.size < _; simp)).trans (by simp)
  have hb1' : Below w.heap.size w w1 := ((Below.refl _ _).alloc (Nat.le_refl _) _).trans (hb1.mono (by simp))
  have H1 := hidS h1
  clear hb1 h1 Hc
  go_wp2_with fail
  refine (Hr.out _).mono ?_
  rintro e w2 ⟨hb2, x', y', rfl, h2⟩
  have hb2' : Below w.heap.size w w2 := hb1'.trans (hb2.mono (by omega))
  obtain ⟨rfl, rfl⟩ := chkS_unique H1.out h2
  clear hb2 k2 h2 H1 Hr
  go_wp2
  go_ret
  exact ⟨ret_bool (by simp), hb2'⟩
end Go.Proofs.YtffkejkgkgfnhabGreat
namespace Go.Proofs.YtffkejkgkgfnhabGreat
open Go.ChangeShapes Go.WideShapes Go.ChangeAt Go.RowKit Go.Deep
set_option linter.unusedVariables false
set_option maxHeartbeats 400000 in
theorem c14scan (p : Value) (n : Int) (s t : ByteArray) (d : Value) (w : World) (hs : s.size ≤ maxLen) :
    Calls Tryz.prog 5 #[p, .agg #[.int .i64 2, .int .i64 n, .string s, .string t, d]] w fun e w' => e = .returned (.bool true) ∧ Below w.heap.size w w' := by
  go_enter Tryz.func5, Tryz.ntmps5
  go_wp2_with (first | (go_at_call 9; refine (c10 _ _ _ hs).mono ?_; rintro e w' ⟨rfl, rfl⟩) | (go_at_call 10; refine (c22 _ _ _ hs).mono ?_; rintro e w' ⟨rfl, rfl⟩))
  go_ret
  refine ⟨ret_bool (by simp), (Below.refl _ _).alloc (Nat.le_refl _) _⟩
end Go.Proofs.YtffkejkgkgfnhabGreat
