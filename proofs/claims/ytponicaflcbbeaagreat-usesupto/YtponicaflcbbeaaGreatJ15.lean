import Derived.Test.YtponicaflcbbeaaGreatJ14
import Derived.Test.YtponicaflcbbeaaGreatJ11
import Derived.Test.YtponicaflcbbeaaGreatJ01
import Derived.Deep.RegionLaw
namespace Go.Proofs.YtponicaflcbbeaaGreat
open Go.RowKit
set_option linter.unusedVariables false
theorem actsC_at (s : ByteArray) : ∀ (A : List Ak) (p i : Nat) (hi : i < A.length) (j : Nat), j < 5 → (actsC s p A)[i * 5 + j]? = (akC s (lastN s p (A.take i)) A[i])[j]?
  | [], p, i, hi, j, hj => absurd hi (by simp)
  | a :: r, p, 0, hi, j, hj => by
    simp only [actsC, List.take_zero, lastN, List.getElem_cons_zero]
    rw [List.getElem?_append_left (by simp [akC]; omega)]
    congr 1; omega
  | a :: r, p, i + 1, hi, j, hj => by
    have hi' : i < r.length := by simpa using hi
    have := actsC_at s r (act s a.at').next i hi' j hj
    simp only [actsC, List.take_succ_cons, lastN, List.getElem_cons_succ]
    rw [List.getElem?_append_right (by simp [akC]; omega), ← this]
    congr 1
    simp [akC]; omega
/-- the text ahead of an action -/
def hdA (s : ByteArray) (A : List Ak) (i : Nat) : ByteArray := s.extract (lastN s 0 (A.take i)) (match A[i]? with | some a => a.at' | none => 0)
def AkAt (s : ByteArray) (w : World) (g : Nat) (A : List Ak) : Prop := ∀ (i : Nat) (hi : i < A.length), w.cell? ⟨g, i * 5, none⟩ = some (.int .i64 A[i].kind) ∧ w.cell? ⟨g, i * 5 + 1, none⟩ = some (.string A[i].name) ∧ w.cell? ⟨g, i * 5 + 2, none⟩ = some (.int .i64 A[i].at') ∧ w.cell? ⟨g, i * 5 + 4, none⟩ = some (.string (hdA s A i))
theorem akAt {s : ByteArray} {w : World} {B : Nat} {aa : Option Addr} {ac : Nat} {A : List Ak} (h : w.ownsRow B 118 5 (.slice aa A.length ac) A.length (actsC s 0 A)) : A = [] ∨ ∃ g, aa = some ⟨g, 0, none⟩ ∧ A.length ≤ ac ∧ ac ≤ maxLen ∧ B ≤ g ∧ g < w.heap.size ∧ AkAt s w g A := by
  have hlt := fun g hg => h.lt g hg
  rcases h.2 with ⟨_, h0⟩ | ⟨g, cap, cur, hv, hb, hg, hn, hm, hs, ht⟩
  · exact .inl (List.length_eq_zero_iff.1 h0)
  · right
    simp at hv
    obtain ⟨hv1, rfl⟩ := hv
    have hl := hlt g (by rw [hv1]; rfl)
    refine ⟨g, hv1, hn, hm, hl.1, hl.2, fun i hi => ?_⟩
    have tk : ∀ j, j < 5 → cur[i * 5 + j]? = (akC s (lastN s 0 (A.take i)) A[i])[j]? := by
      intro j hj
      rw [← actsC_at s A 0 i hi j hj, ← ht, List.getElem?_take_of_lt (by omega)]; simp
    have t0 := tk 0 (by omega)
    have t1 := tk 1 (by omega)
    have t2 := tk 2 (by omega)
    have t4 := tk 4 (by omega)
    simp only [Nat.add_zero] at t0
    refine ⟨by rw [cell_of_heap hg, t0]; rfl, by rw [cell_of_heap hg, t1]; rfl, by rw [cell_of_heap hg, t2]; rfl, ?_⟩
    rw [cell_of_heap hg, t4, hdA, List.getElem?_eq_getElem hi]; rfl
def hitB (nm : ByteArray) (L : List Ak) : Bool := seenB (names L) nm
theorem hit_nil (nm : ByteArray) : hitB nm [] = false := rfl
theorem hit_yes (nm : ByteArray) (a : Ak) (r : List Ak) (h : a.kind = 1) (h2 : nmEq a.name nm = true) : hitB nm (a :: r) = true := by simp [hitB, names, seenB, h, h2]
theorem hit_no (nm : ByteArray) (a : Ak) (r : List Ak) (h : a.kind ≠ 1 ∨ nmEq a.name nm = false) : hitB nm (a :: r) = hitB nm r := by
  rcases h with h | h
  · simp [hitB, names, seenB, h]
  · by_cases h1 : a.kind = 1 <;> simp [hitB, names, seenB, h, h1]
/-- where the template of that name begins; 0, if nowhere -/
def idxA (nm : ByteArray) : List Ak → Nat → Nat
  | [], _ => 0
  | a :: r, k => if a.kind = 1 ∧ nmEq a.name nm = true then k else idxA nm r (k + 1)
theorem idx_yes (nm : ByteArray) (a : Ak) (r : List Ak) (k : Nat) (h : a.kind = 1) (h2 : nmEq a.name nm = true) : idxA nm (a :: r) k = k := by simp only [idxA]; rw [if_pos ⟨h, h2⟩]
theorem idx_no (nm : ByteArray) (a : Ak) (r : List Ak) (k : Nat) (h : a.kind ≠ 1 ∨ nmEq a.name nm = false) : idxA nm (a :: r) k = idxA nm r (k + 1) := by
  simp only [idxA]; rw [if_neg]; rintro ⟨h1, h2⟩; rcases h with h | h
  · exact h h1
  · rw [h] at h2; cases h2
theorem retS_two {a b : Int} {c d : Bool} (h : a = b) (h' : c = d) : Ending.returned (.tuple #[.int .i64 a, .bool c]) = .returned (.tuple #[.int .i64 b, .bool d]) := by rw [h, h']
theorem drop_take_cons (A : List Ak) (n k : Nat) (hk : k < n) (hn : n ≤ A.length) : (A.take n).drop k = A[k]'(by omega) :: (A.take n).drop (k + 1) := by
  rw [List.drop_eq_getElem_cons (by simp; omega)]; simp
set_option maxHeartbeats 2000000 in
theorem c71 (s : ByteArray) (w : World) (g ac n : Nat) (A : List Ak) (nm : ByteArray) (hn : n ≤ A.length) (hA : A.length ≤ 1000) (hat : AkAt s w g A) :
    Calls Tryz.prog 71 #[.slice (some ⟨g, 0, none⟩) n ac, .string nm] w fun e w' => e = .returned (.tuple #[.int .i64 (idxA nm (A.take n) 0), .bool (hitB nm (A.take n))]) ∧ w' = w := by
  have HAT := hidS hat
  clear hat
  go_enter Tryz.func71, Tryz.ntmps71
  go_wp2
  go_loop [6] (fun i => ∃ k : Nat, k ≤ n ∧ i = .int .i64 k ∧ Hid (hitB nm (A.take n) = hitB nm ((A.take n).drop k)) ∧ Hid (idxA nm (A.take n) 0 = idxA nm ((A.take n).drop k) k)) (fun i => n - (intOf i).toNat)
  case atStart => exact ⟨0, Nat.zero_le _, rfl, rfl, rfl⟩
  case round =>
    obtain ⟨k, hk, rfl, H, I⟩ := hrel
    by_cases hlt : k < n
    · obtain ⟨c0, c1, _⟩ := HAT.out k (by omega)
      have HS := hidS (drop_take_cons A n k hlt hn)
      by_cases h1 : (A[k]'(by omega)).kind = 1
      · have e1 : ((A[k]'(by omega)).kind == 1) = true := by simp [h1]
        cases hB : nmEq (A[k]'(by omega)).name nm
        · have HF : Hid (hitB nm (A.take n) = hitB nm ((A.take n).drop (k + 1))) := by show _ = _; rw [H.out, HS.out, hit_no nm _ _ (.inr hB)]
          have IF : Hid (idxA nm (A.take n) 0 = idxA nm ((A.take n).drop (k + 1)) (k + 1)) := by show _ = _; rw [I.out, HS.out, idx_no nm _ _ _ (.inr hB)]
          unfold nmEq at hB
          clear H HS h1 I
          go_wp2
          go_round
          case rel => exact ⟨k + 1, by omega, by go_num, HF.out, IF.out⟩
          case measure => simp [intOf]; omega
        · have HF : Hid (hitB nm (A.take n) = true) := by show _ = _; rw [H.out, HS.out, hit_yes nm _ _ h1 hB]
          have IF : Hid (idxA nm (A.take n) 0 = k) := by show _ = _; rw [I.out, HS.out, idx_yes nm _ _ _ h1 hB]
          unfold nmEq at hB
          clear H HS h1 I
          go_wp2
          go_ret2
          exact ⟨retS_two (by rw [IF.out]) HF.out.symm, rfl⟩
      · have e1 : ((A[k]'(by omega)).kind == 1) = false := by simp [h1]
        have HF : Hid (hitB nm (A.take n) = hitB nm ((A.take n).drop (k + 1))) := by show _ = _; rw [H.out, HS.out, hit_no nm _ _ (.inl h1)]
        have IF : Hid (idxA nm (A.take n) 0 = idxA nm ((A.take n).drop (k + 1)) (k + 1)) := by show _ = _; rw [I.out, HS.out, idx_no nm _ _ _ (.inl h1)]
        clear H HS h1 I
        go_wp2
        go_round
        case rel => exact ⟨k + 1, by omega, by go_num, HF.out, IF.out⟩
        case measure => simp [intOf]; omega
    · have HF : Hid (hitB nm (A.take n) = false) := by show _ = _; rw [H.out, List.drop_eq_nil_of_le (by simp; omega)]; rfl
      have IF : Hid (idxA nm (A.take n) 0 = 0) := by show _ = _; rw [I.out, List.drop_eq_nil_of_le (by simp; omega)]; rfl
      go_wp2
      go_ret2
      exact ⟨retS_two (by rw [IF.out]; rfl) HF.out.symm, rfl⟩
theorem drew_more {w wr : World} (h : ∃ nd, wr = w.drewN nd) (n : Nat) : ∃ nd, wr.drewN n = w.drewN nd := by
  obtain ⟨m, rfl⟩ := h
  exact ⟨m + n, by simp [World.drewN, Nat.add_assoc]⟩
theorem tw_at (A : List Ak) (k : Nat) (hk : k < A.length) : twA (names (A.take k)) (A.drop k) = if A[k].kind = 1 then (if hitB A[k].name (A.take k) then (A[k].at' : Int) else twA (names (A.take (k + 1))) (A.drop (k + 1))) else twA (names (A.take (k + 1))) (A.drop (k + 1)) := by
  rw [List.drop_eq_getElem_cons hk, List.take_succ_eq_append_getElem hk, names_append]
  simp only [twA, hitB]
  by_cases h : A[k].kind = 1
  · have : names [A[k]] = [A[k].name] := by simp [names, h]
    rw [if_pos h, if_pos h, this]
    first | rfl | (split <;> simp_all)
  · have : names [A[k]] = [] := by simp [names, h]
    rw [if_neg h, if_neg h, this, List.append_nil]
set_option maxRecDepth 100000 in
set_option maxHeartbeats 4000000 in
theorem c57 (s : ByteArray) (w : World) (g ac : Nat) (A : List Ak) (hA : A.length ≤ 1000) (hc : A.length ≤ ac) (hm : ac ≤ maxLen) (hat : AkAt s w g A) :
    Calls Tryz.prog 53 #[.slice (some ⟨g, 0, none⟩) A.length ac] w fun e w' => (∃ n, w' = w.drewN n) ∧ ((0 ≤ twA [] A ∧ e = .returned (.tuple #[.int .i64 (twA [] A), .bool true])) ∨ (twA [] A = -1 ∧ e = .returned (.tuple #[.int .i64 0, .bool false]))) := by
  have HAT := hidS hat
  have Hc := hidS (fun wx (hx : AkAt s wx g A) n nm (hn : n ≤ A.length) => c71 s wx g ac n A nm hn hA hx)
  clear hat
  unfold maxLen at hm
  go_enter Tryz.func53, Tryz.ntmps53
  go_wp2
  go_loopw [4] (fun i wr => ∃ k : Nat, k ≤ A.length ∧ i = .int .i64 k ∧ Hid (∃ nd, wr = w.drewN nd) ∧ Hid (AkAt s wr g A) ∧ Hid (twA [] A = twA (names (A.take k)) (A.drop k))) (fun i _ => A.length - (intOf i).toNat)
  case atStart => exact ⟨0, Nat.zero_le _, rfl, ⟨0, rfl⟩, HAT.out, rfl⟩
  case round =>
    clear HAT
    obtain ⟨k, hk, rfl, HW, HAT, H⟩ := hrel
    by_cases hlt : k < A.length
    · obtain ⟨c0, c1, c2, _⟩ := HAT.out k hlt
      have HS := hidS (tw_at A k hlt)
      have b1 : (k : Int) < (A.length : Int) := by omega
      have b2 : (k : Int) ≤ (ac : Int) := by omega
      by_cases h1 : A[k].kind = 1
      · have e1 : (A[k].kind != 1) = false := by simp [h1]
        cases hB : hitB A[k].name (A.take k)
        · have HF : Hid (twA [] A = twA (names (A.take (k + 1))) (A.drop (k + 1))) := by show _ = _; rw [H.out, HS.out, if_pos h1, if_neg (by rw [hB]; decide)]
          clear H HS h1
          go_wp2
          go_quiet ((go_at_call 71; refine Calls.quiet_of_same (Hc.out _ ?_ k A[k].name ?_); (intro i hi; exact HAT.out i hi); omega))
          go_wp2
          go_roundw
          case rel => exact ⟨k + 1, by omega, by go_num, drew_more HW.out _, (fun i hi => HAT.out i hi), HF.out⟩
          case measure => simp [intOf]; omega
        · have HF : Hid (twA [] A = A[k].at') := by show _ = _; rw [H.out, HS.out, if_pos h1, if_pos hB]
          clear H HS h1
          go_wp2
          go_quiet ((go_at_call 71; refine Calls.quiet_of_same (Hc.out _ ?_ k A[k].name ?_); (intro i hi; exact HAT.out i hi); omega))
          go_wp2
          go_ret2
          exact ⟨drew_more HW.out _, .inl ⟨by rw [HF.out]; omega, by rw [HF.out]; rfl⟩⟩
      · have e1 : (A[k].kind != 1) = true := by simp [h1]
        have HF : Hid (twA [] A = twA (names (A.take (k + 1))) (A.drop (k + 1))) := by show _ = _; rw [H.out, HS.out, if_neg h1]
        clear H HS h1
        go_wp2
        exact ⟨⟨k + 1, by omega, by go_num, HW.out, (fun i hi => HAT.out i hi), HF.out⟩, by simp [intOf]; omega⟩
    · have HF : Hid (twA [] A = -1) := by show _ = _; rw [H.out, List.drop_eq_nil_of_le (by omega)]; rfl
      go_wp2
      go_ret2
      exact ⟨HW.out, .inr ⟨HF.out, rfl⟩⟩
theorem un_at (has : ByteArray → Bool) (A : List Ak) (k : Nat) (hk : k < A.length) : unA has (A.drop k) = if A[k].kind = 8 ∧ has A[k].name = false then (A[k].at' : Int) else unA has (A.drop (k + 1)) := by
  rw [List.drop_eq_getElem_cons hk]; rfl
set_option maxRecDepth 100000 in
set_option maxHeartbeats 4000000 in
theorem c58 (s : ByteArray) (w : World) (g ac : Nat) (A : List Ak) (hA : A.length ≤ 1000) (hat : AkAt s w g A) :
    Calls Tryz.prog 54 #[.slice (some ⟨g, 0, none⟩) A.length ac] w fun e w' => w' = w ∧ ((0 ≤ unA (seenB (names A)) A ∧ e = .returned (.tuple #[.int .i64 (unA (seenB (names A)) A), .bool true])) ∨ (unA (seenB (names A)) A = -1 ∧ e = .returned (.tuple #[.int .i64 0, .bool false]))) := by
  have HAT := hidS hat
  have Hc : Hid (∀ nm, Calls Tryz.prog 71 #[.slice (some ⟨g, 0, none⟩) A.length ac, .string nm] w fun e w' => e = .returned (.tuple #[.int .i64 (idxA nm A 0), .bool (seenB (names A) nm)]) ∧ w' = w) := by
    intro nm
    have := c71 s w g ac A.length A nm (Nat.le_refl _) hA hat
    rw [List.take_length] at this
    exact this
  clear hat
  go_enter Tryz.func54, Tryz.ntmps54
  go_wp2
  go_loop [4] (fun i => ∃ k : Nat, k ≤ A.length ∧ i = .int .i64 k ∧ Hid (unA (seenB (names A)) A = unA (seenB (names A)) (A.drop k))) (fun i => A.length - (intOf i).toNat)
  case atStart => exact ⟨0, Nat.zero_le _, rfl, rfl⟩
  case round =>
    obtain ⟨k, hk, rfl, H⟩ := hrel
    by_cases hlt : k < A.length
    · obtain ⟨c0, c1, c2, _⟩ := HAT.out k hlt
      have HS := hidS (un_at (seenB (names A)) A k hlt)
      by_cases h1 : A[k].kind = 8
      · have e1 : (A[k].kind != 8) = false := by simp [h1]
        cases hB : seenB (names A) A[k].name
        · have HF : Hid (unA (seenB (names A)) A = A[k].at') := by show _ = _; rw [H.out, HS.out, if_pos ⟨h1, hB⟩]
          clear H HS h1
          go_wp2_with (go_at_call 71; refine (Hc.out _).mono ?_; rintro e w' ⟨rfl, hw⟩; obtain rfl := hw.symm)
          go_ret2
          exact ⟨rfl, .inl ⟨by rw [HF.out]; omega, by rw [HF.out]; rfl⟩⟩
        · have HF : Hid (unA (seenB (names A)) A = unA (seenB (names A)) (A.drop (k + 1))) := by show _ = _; rw [H.out, HS.out, if_neg (by rw [hB]; simp)]
          clear H HS h1
          go_wp2_with (go_at_call 71; refine (Hc.out _).mono ?_; rintro e w' ⟨rfl, hw⟩; obtain rfl := hw.symm)
          go_round
          case rel => exact ⟨k + 1, by omega, by go_num, HF.out⟩
          case measure => simp [intOf]; omega
      · have e1 : (A[k].kind != 8) = true := by simp [h1]
        have HF : Hid (unA (seenB (names A)) A = unA (seenB (names A)) (A.drop (k + 1))) := by show _ = _; rw [H.out, HS.out, if_neg (fun h => h1 h.1)]
        clear H HS h1
        go_wp2
        go_round
        case rel => exact ⟨k + 1, by omega, by go_num, HF.out⟩
        case measure => simp [intOf]; omega
    · have HF : Hid (unA (seenB (names A)) A = -1) := by show _ = _; rw [H.out, List.drop_eq_nil_of_le (by omega)]; rfl
      go_wp2
      go_ret2
      exact ⟨rfl, .inr ⟨HF.out, rfl⟩⟩
/-! ### Check -/
theorem fin_ne (s : ByteArray) (A : List Ak) (h : Ends s init (.fin A)) : A ≠ [] := by
  obtain ⟨d, hr, hs, _⟩ := h
  have key : ∀ c, Reach s init c → c.nt = 0 ∨ c.acts ≠ [] := by
    intro c hc
    have gen : ∀ a b, Reach s a b → (a.nt = 0 ∨ a.acts ≠ []) → (b.nt = 0 ∨ b.acts ≠ []) := by
      intro a b hab
      induction hab with
      | refl c => exact fun h => h
      | @step c d e h r ih =>
        intro hc'
        apply ih
        unfold stepC at h
        split at h
        · split at h
          · cases h; exact hc'
          · split at h
            · cases h
            · cases h; right; simp
        · split at h <;> cases h
    exact gen init c hc (.inl rfl)
  have := key d hr
  unfold stepC at hs
  split at hs
  · split at hs
    · cases hs
    · split at hs <;> cases hs
  · split at hs
    · cases hs
    · rename_i hne
      cases hs
      rcases this with h | h
      · exact absurd (.inr h) hne
      · exact h
def LoadPost (s : ByteArray) (w : World) (e : Ending) (w' : World) : Prop :=
  ∃ v x y, e = .returned (.tuple #[v, .int .i64 x, .int .i64 y]) ∧ ChkS s x y ∧ ((x ≠ 0 ∧ v = .slice none 0 0) ∨
    (x = 0 ∧ ∃ (g ac : Nat) (A : List Ak), v = .slice (some ⟨g, 0, none⟩) A.length ac ∧ s.size ≤ 400 ∧ Ends s init (.fin A) ∧ twA [] A = -1 ∧ unA (seenB (names A)) A < 0 ∧ AkAt s w' g A ∧ w.heap.size ≤ g ∧ g < w'.heap.size ∧ A.length ≤ ac ∧ ac ≤ maxLen ∧ A.length ≤ 1000))
set_option maxHeartbeats 4000000 in
theorem c33L (s : ByteArray) (w : World) (hm : s.size ≤ maxLen) : Calls Tryz.prog 33 #[.string s] w fun e w' => Below w.heap.size w w' ∧ LoadPost s w e w' := by
  unfold maxLen at hm
  by_cases hs : s.size ≤ 400
  · have Hc := hidS (c56 s w (by omega))
    go_enter Tryz.func33, Tryz.ntmps33
    go_wp2_with fail
    refine Hc.out.mono ?_
    clear Hc
    rintro e w1 ⟨hb1, hor⟩
    rcases hor with ⟨er, rfl, hE⟩ | ⟨aa, ac, A, rfl, hE, hown, hA⟩
    · have HE : Hid (ChkS s 2 er) := .inr ⟨hs, .inl ⟨er, hE, rfl, rfl⟩⟩
      clear hE
      go_wp2
      go_ret3
      exact ⟨hb1, _, 2, er, rfl, HE.out, .inl ⟨by decide, rfl⟩⟩
    · rcases akAt hown with h0 | ⟨g, rfl, hc1, hc2, hg1, hg2, hat⟩
      · exact absurd h0 (fin_ne s A hE)
      · have HE := hidS hE
        have Ht := hidS (c57 s w1 g ac A hA hc1 hc2 hat)
        have Hu := hidS (fun wx (hx : AkAt s wx g A) => c58 s wx g ac A hA hx)
        have HAT := hidS hat
        clear hE hown hat
        go_wp2_with fail
        refine Ht.out.mono ?_
        rintro e w2 ⟨⟨nd, hw2⟩, hor⟩
        have hb2 : Below w.heap.size w w2 := by rw [hw2]; exact below_drewN hb1 nd
        have HAT2 : Hid (AkAt s w2 g A) := by rw [hw2]; exact HAT.out
        have hgw : g < w2.heap.size := by rw [hw2]; exact hg2
        clear hw2
        rcases hor with ⟨ht1, rfl⟩ | ⟨ht1, rfl⟩
        · have HF : Hid (ChkS s 3 (twA [] A)) := .inr ⟨hs, .inr ⟨A, HE.out, .inl ⟨ht1, rfl, rfl⟩⟩⟩
          generalize twA [] A = T at *
          go_wp2
          go_ret3
          exact ⟨hb2, _, 3, T, rfl, HF.out, .inl ⟨by decide, rfl⟩⟩
        · have HT1 := hidS ht1
          clear ht1
          go_wp2_with fail
          refine (Hu.out w2 HAT2.out).mono ?_
          rintro e w3 ⟨hw3, hor3⟩
          obtain rfl := hw3.symm
          rcases hor3 with ⟨hu1, rfl⟩ | ⟨hu1, rfl⟩
          · have HF : Hid (ChkS s 4 (unA (seenB (names A)) A)) := .inr ⟨hs, .inr ⟨A, HE.out, .inr (.inl ⟨HT1.out, hu1, rfl, rfl⟩)⟩⟩
            generalize unA (seenB (names A)) A = T at *
            go_wp2
            go_ret3
            exact ⟨hb2, _, 4, T, rfl, HF.out, .inl ⟨by decide, rfl⟩⟩
          · have HF : Hid (ChkS s 0 0) := .inr ⟨hs, .inr ⟨A, HE.out, .inr (.inr ⟨HT1.out, by omega, rfl, rfl⟩)⟩⟩
            have HU1 : Hid (unA (seenB (names A)) A < 0) := by show _ < _; omega
            have HB := hidS hb1.size
            clear hu1
            go_wp2
            go_ret3
            exact ⟨hb2, _, 0, 0, rfl, HF.out, .inr ⟨rfl, g, ac, A, rfl, hs, HE.out, HT1.out, HU1.out, HAT2.out, by omega, hgw, hc1, hc2, hA⟩⟩
  · have HF : Hid (ChkS s 1 0) := .inl ⟨by omega, rfl, rfl⟩
    go_enter Tryz.func33, Tryz.ntmps33
    go_wp2
    go_ret3
    exact ⟨Below.refl _ _, _, 1, 0, rfl, HF.out, .inl ⟨by decide, rfl⟩⟩
set_option maxHeartbeats 1000000 in
theorem c30 (s : ByteArray) (w : World) (hm : s.size ≤ maxLen) : Calls Tryz.prog 18 #[.string s] w fun e w' => Below w.heap.size w w' ∧ ∃ x y, e = .returned (.tuple #[.int .i64 x, .int .i64 y]) ∧ ChkS s x y := by
  have Hc := hidS (c33L s w hm)
  go_enter Tryz.func18, Tryz.ntmps18
  go_wp2_with fail
  refine Hc.out.mono ?_
  clear Hc
  rintro e w1 ⟨hb1, v, x, y, rfl, hk, _⟩
  go_wp2
  go_ret2
  exact ⟨hb1, x, y, rfl, hk⟩
set_option maxHeartbeats 400000 in
theorem c20 (s : ByteArray) (w : World) (hm : s.size ≤ maxLen) : Calls Tryz.prog 10 #[.string s] w fun e w' => Below w.heap.size w w' ∧ ∃ x y, e = .returned (.tuple #[.int .i64 x, .int .i64 y]) ∧ ChkS s x y := by
  go_enter Tryz.func10, Tryz.ntmps10
  go_wp2_with fail
  refine (c30 s w hm).mono ?_
  rintro e w1 ⟨hb, x, y, rfl, h⟩
  have H := hidS h
  clear h
  go_wp2
  go_ret2
  exact ⟨hb, x, y, rfl, H.out⟩
set_option maxHeartbeats 1000000 in
theorem c21 (s : ByteArray) (w : World) (hm : s.size ≤ maxLen) : Calls Tryz.prog 11 #[.string s] w fun e w' => Below w.heap.size w w' ∧ ∃ x y, e = .returned (.tuple #[.int .i64 x, .int .i64 y]) ∧ ChkS s x y := by
  by_cases hs : s.size ≤ 400
  · go_enter Tryz.func11, Tryz.ntmps11
    go_wp2_with fail
    refine (c31 s w hs).mono ?_
    rintro e w1 ⟨hb, hor⟩
    rcases hor with ⟨er, rfl, hE⟩ | ⟨a, c, ts, A, hT, hE, _, _, hO⟩
    · have HE : Hid (ChkS s 2 er) := .inr ⟨hs, .inl ⟨er, hE, rfl, rfl⟩⟩
      clear hE
      go_wp2
      go_ret2
      exact ⟨hb, 2, er, rfl, HE.out⟩
    · obtain ⟨v, x, y, rfl, hC⟩ := chk_of_read s ts A a c e hT hO
      have HE : Hid (ChkS s x y) := .inr ⟨hs, .inr ⟨A, hE, hC⟩⟩
      clear hE hT hO hC
      go_wp2
      go_ret2
      exact ⟨hb, x, y, rfl, HE.out⟩
  · have HF : Hid (ChkS s 1 0) := .inl ⟨by omega, rfl, rfl⟩
    go_enter Tryz.func11, Tryz.ntmps11
    go_wp2_with fail
    refine (c31long s w (by omega) hm).mono ?_
    rintro e w1 ⟨rfl, rfl⟩
    go_wp2
    go_ret2
    exact ⟨Below.refl _ _, 1, 0, rfl, HF.out⟩
end Go.Proofs.YtponicaflcbbeaaGreat
/-
  THE PROGRAM's WAY THROUGH THE ACTIONS, as plain mathematics: one context a place. No Go.
-/
namespace Go.Proofs.YtponicaflcbbeaaGreat
set_option linter.unusedVariables false
structure Gp where
  (b f : Nat)
  en : Int
structure FS where
  gs : List Gp
  cm : Nat → Nat → Bool
  grew : Bool
structure PS where
  now : Int
  op : List (Int × Int)
def upd2 (f : Nat → Nat → Bool) (i c : Nat) : Nat → Nat → Bool := fun j d => if j = i ∧ d = c then true else f j d
def hasG (gs : List Gp) (b f : Nat) : Option Gp := gs.find? fun g => decide (g.b = b ∧ g.f = f)
def meetF (fs : FS) (b f : Nat) : Int × FS := match hasG fs.gs b f with
  | some g => (g.en, fs)
  | none => (-1, { fs with gs := fs.gs ++ [⟨b, f, -1⟩], grew := true })
def enterF (ps : PS) : PS := { ps with op := ps.op ++ [(ps.now, ps.now)] }
def turnF (ps : PS) : PS := match ps.op.getLast? with
  | some l => ⟨l.1, ps.op.dropLast ++ [(l.1, ps.now)]⟩
  | none => ps
def leaveF (ps : PS) : PS × Bool := match ps.op.getLast? with
  | some l => (⟨if ps.now = -1 then l.2 else ps.now, ps.op.dropLast⟩, decide (l.2 = -1 ∨ l.2 = (if ps.now = -1 then l.2 else ps.now)))
  | none => (ps, true)
def callF (A : List Ak) (nm : ByteArray) (x : Int) (fs : FS) : Int × FS := if hitB nm A = true ∧ x ≠ -1 then meetF fs (idxA nm A 0) x.toNat else (-1, fs)
def takeF (A : List Ak) (i : Nat) (k : Int) (nm : ByteArray) (ps : PS) (fs : FS) : Option (PS × FS) :=
  if k = 3 then (if ps.now = -1 then some (ps, fs) else if opS ps.now.toNat = true then some (ps, { fs with cm := upd2 fs.cm i ps.now.toNat }) else none)
  else if k = 8 then some ({ ps with now := (callF A nm ps.now fs).1 }, (callF A nm ps.now fs).2)
  else if k = 4 ∨ k = 6 then some (enterF ps, fs)
  else if k = 5 then some (turnF ps, fs)
  else if k = 7 then (if (leaveF ps).2 = true then some ((leaveF ps).1, fs) else none)
  else some (ps, fs)
/-- behind a text -/
def rdF (x : Int) (t : ByteArray) : Int := if x = -1 then -1 else scn x t.data.toList
def runF (s : ByteArray) (A : List Ak) : List Ak → Nat → PS → FS → Option (Int × FS)
  | [], _, ps, fs => some (-1, fs)
  | a :: r, i, ps, fs =>
    if ps.now ≠ -1 ∧ rdF ps.now (hdA s A i) = -1 then none
    else if a.kind = 2 then some (rdF ps.now (hdA s A i), fs)
    else match takeF A i a.kind a.name { ps with now := rdF ps.now (hdA s A i) } fs with
      | none => none
      | some (ps', fs') => runF s A r (i + 1) ps' fs'
/-! ### One context as a set -/
def opt (x : Int) : Cs := fun y => x = (y : Int)
theorem opt_none (y : Nat) : ¬ opt (-1) y := by unfold opt; omega
theorem opt_two (x : Int) : ¬ two (opt x) := by
  rintro ⟨a, b, h1, h2, h3⟩
  unfold opt at h1 h2; omega
theorem opt_nat (n : Nat) (y : Nat) : opt n y ↔ y = n := by unfold opt; omega
/-! ### Texts -/
theorem ext_cat (s : ByteArray) (a b c : Nat) (h1 : a ≤ b) (h2 : b ≤ c) (h3 : c ≤ s.size) : (s.extract a c).data.toList = (s.extract a b).data.toList ++ (s.extract b c).data.toList := by
  have e2 : s.data.toList.length = s.size := rfl
  rw [Lib.extract_data, Lib.extract_data, Lib.extract_data]
  have : c - a = (b - a) + (c - b) := by omega
  rw [this, List.take_add, List.drop_drop]
  congr 3
  omega
theorem rd_cat (s : ByteArray) (x : Int) (a b c : Nat) (h1 : a ≤ b) (h2 : b ≤ c) (h3 : c ≤ s.size) (hx : -1 ≤ x ∧ x ≤ 23) : rdF x (s.extract a c) = rdF (rdF x (s.extract a b)) (s.extract b c) := by
  unfold rdF
  by_cases h : x = -1
  · simp [h]
  · rw [if_neg h, if_neg h, ext_cat s a b c h1 h2 h3, scn_in x _ (by omega) (by omega), scn_in x _ (by omega) (by omega), scl_append]
    have hr := scl_range x (s.extract a b).data.toList (by omega)
    by_cases e : scl x (s.extract a b).data.toList = -1
    · rw [if_pos e, e, scl_lost]
    · rw [if_neg e, scn_in _ _ (by omega) (by omega)]
theorem rd_range (x : Int) (t : ByteArray) : -1 ≤ rdF x t ∧ rdF x t ≤ 23 := by
  unfold rdF; split
  · omega
  · exact scn_range _ _
theorem rd_none (t : ByteArray) : rdF (-1) t = -1 := by simp [rdF]
theorem rd_empty (s : ByteArray) (x : Int) (a : Nat) (hx : -1 ≤ x ∧ x ≤ 23) : rdF x (s.extract a a) = x := by
  unfold rdF
  by_cases h : x = -1
  · simp [h]
  · rw [if_neg h, Lib.extract_data, scn_in _ _ (by omega) (by omega)]
    simp [scl]
end Go.Proofs.YtponicaflcbbeaaGreat
namespace Go.Proofs.YtponicaflcbbeaaGreat
open Go.RowKit
set_option linter.unusedVariables false
def opC (l : List (Int × Int)) : List Value := l.flatMap fun p => [.int .i64 p.1, .int .i64 p.2]
structure PkOK (w : World) (P B : Nat) (oa : Option Addr) (oc : Nat) (ps : PS) : Prop where
  c0 : w.cell? ⟨P, 0, none⟩ = some (.int .i64 ps.now)
  c1 : w.cell? ⟨P, 1, none⟩ = some (.slice oa ps.op.length oc)
  f0 : w.frozen? ⟨P, 0, none⟩ = false
  f1 : w.frozen? ⟨P, 1, none⟩ = false
  own : w.ownsRow B 147 2 (.slice oa ps.op.length oc) ps.op.length (opC ps.op)
  lt : P < B
  le : B ≤ w.heap.size
  len : ps.op.length ≤ 1000
  ran : -1 ≤ ps.now ∧ ps.now ≤ 23
theorem PkOK.setNow {w : World} {P B : Nat} {oa : Option Addr} {oc : Nat} {ps : PS} (h : PkOK w P B oa oc ps) (x : Int) (hx : -1 ≤ x ∧ x ≤ 23) : PkOK (w.setCell ⟨P, 0, none⟩ (.int .i64 x)) P B oa oc { ps with now := x } := by
  obtain ⟨c0, c1, f0, f1, own, lt, le, len, ran⟩ := h
  refine ⟨cellS _ c0, (cellO w _ _ _ _ (by decide)).trans c1, by simpa using f0, by simpa using f1, own_far own (fun g hg => set_far w P 0 _ g (by have := (own.lt g hg).1; omega)), lt, by simpa using le, len, hx⟩
def ChgP (w w' : World) (P : Nat) (v : Value) : Prop := ChgB w w' P v
set_option maxHeartbeats 1000000 in
theorem p105 (w : World) (P B : Nat) (oa : Option Addr) (oc : Nat) (ps : PS) (t : ByteArray) (ht : t.size ≤ maxLen) (h : PkOK w P B oa oc ps) :
    Calls Tryz.prog 105 #[.pointer (some ⟨P, 0, none⟩), .string t] w fun e w' => e = .returned (.bool (decide (ps.now = -1 ∨ rdF ps.now t ≠ -1))) ∧ ChgB w w' P (.slice none 0 0) ∧ PkOK w' P B oa oc { ps with now := rdF ps.now t } := by
  have H := hidS h
  have Hs := hidS (fun wx => c16 ps.now t wx ht)
  obtain ⟨c0, c1, f0, f1, _⟩ := h
  have hr := rd_range ps.now t
  by_cases hn : ps.now = -1
  · have e1 : (ps.now == -1) = true := by simp [hn]
    have HR : Hid (rdF ps.now t = ps.now) := by show _ = _; rw [hn]; exact rd_none t
    go_enter Tryz.func105, Tryz.ntmps105
    go_wp2
    go_ret
    refine ⟨retS_bool (by simp [hn]), ChgB.refl _ _ _, ?_⟩
    rw [HR.out]; exact H.out
  · have e1 : (ps.now == -1) = false := by simp [hn]
    have e2 : scn ps.now t.data.toList = rdF ps.now t := by unfold rdF; rw [if_neg hn]
    rw [e2] at Hs
    have HW : Hid (PkOK (w.setCell ⟨P, 0, none⟩ (.int .i64 (rdF ps.now t))) P B oa oc { ps with now := rdF ps.now t }) := H.out.setNow _ hr
    have c0' : (w.setCell ⟨P, 0, none⟩ (.int .i64 (rdF ps.now t))).cell? ⟨P, 0, none⟩ = some (.int .i64 (rdF ps.now t)) := cellS _ c0
    clear e2
    generalize rdF ps.now t = R at *
    generalize ps.now = N at *
    go_enter Tryz.func105, Tryz.ntmps105
    go_wp2_with fail
    refine (Hs.out _).mono ?_
    rintro e w1 ⟨rfl, hw⟩
    obtain rfl := hw.symm
    go_wp2
    go_ret
    refine ⟨retS_bool ?_, (ChgB.refl _ _ _).set 0 _, HW.out⟩
    by_cases q : R = -1 <;> simp [q, hn]
theorem infoFork : (Tryz.prog.info? 147).map (fun i => (i.zero, i.size, i.bytes)) = some (some (.agg #[.int .i64 0, .int .i64 0]), 2, 16) := by kernel_rfl
theorem fork_cells (w : World) (a b : Int) : ∀ (j : Nat) (u : Value), [Value.int .i64 a, .int .i64 b][j]? = some u → (w.alloc (.cells #[.int .i64 a, .int .i64 b] 147)).cell? ((⟨w.heap.size, 0, none⟩ : Addr).add j) = some u := by
  intro j u hj
  match j, hj with
  | 0, hj => simp at hj; subst hj; simp [Addr.add]
  | 1, hj => simp at hj; subst hj; simp [Addr.add]
  | j + 2, hj => simp at hj
theorem fork_one (a b : Int) : ∀ u ∈ [Value.int .i64 a, .int .i64 b], u.oneCell' = true := by
  intro u hu; simp at hu; rcases hu with rfl | rfl <;> rfl
def POut (w w' : World) (P B : Nat) (oa : Option Addr) (oc n : Nat) (ps' : PS) : Prop :=
  ChgB w w' P (.slice oa n oc) ∧ ∃ oa' oc', PkOK w' P B oa' oc' ps' ∧ ((Value.slice oa' ps'.op.length oc').ownBlock = (Value.slice oa n oc).ownBlock ∨ ∃ g, w.heap.size ≤ g ∧ (Value.slice oa' ps'.op.length oc').ownBlock = some g)
set_option maxRecDepth 100000 in
set_option maxHeartbeats 1000000 in
theorem p113 (w : World) (P B : Nat) (oa : Option Addr) (oc : Nat) (ps : PS) (hl : ps.op.length < 1000) (h : PkOK w P B oa oc ps) :
    Calls Tryz.prog 113 #[.pointer (some ⟨P, 0, none⟩)] w fun e w' => e = .returned (.tuple #[]) ∧ POut w w' P B oa oc ps.op.length (enterF ps) := by
  obtain ⟨i0, hi, hz0, hz1, hz2⟩ := info_parts infoFork
  have H := hidS h
  obtain ⟨c0, c1, f0, f1, hown, hlt, hle, hlen, hran⟩ := h
  have hbw : P < w.heap.size := by omega
  go_enter Tryz.func113, Tryz.ntmps113
  have hneP : some P ≠ (Value.slice oa ps.op.length oc).ownBlock := fun e => by have := (hown.lt P e.symm).1; omega
  go_wp2
  go_region_law (refine step_append_lies _ rfl _ _ 137 rfl B 147 i0 (.agg #[.int .i64 0, .int .i64 0]) 2 16 Tryz.underlying137 hi hz0 hz1 hz2 rfl (by decide) _ _ _ rfl (by first | exact own_far (hown.alloc _) (fun _ _ => rfl) | exact own_far hown (fun _ _ => rfl)) ⟨w.heap.size, 0, none⟩ 1 1 [.int .i64 ps.now, .int .i64 ps.now] rfl rfl (by exact fork_cells w _ _) (fork_one _ _) (by decide) (by unfold maxLen; omega) (by omega) (by simp; omega) _ rfl ?_; intro g cap w1 hown1 hg1 hat1 hlt1; have hbk : w1.heap[P]? = w.heap[P]? := (hg1.block P (by simp; omega) hneP).trans (Below.heap_alloc _ _ _ hbw); have q1 : w1.cell? ⟨P, 1, none⟩ = some (.slice oa ps.op.length oc) := (World.cell?_of_block hbk).trans c1; have p1 : w1.frozen? ⟨P, 1, none⟩ = false := (World.frozen?_of_block hbk).trans f1)
  all_goals
    have q0 : w1.cell? ⟨P, 0, none⟩ = some (.int .i64 ps.now) := (World.cell?_of_block hbk).trans c0
    have p0 : w1.frozen? ⟨P, 0, none⟩ = false := (World.frozen?_of_block hbk).trans f0
    have hsz : w.heap.size ≤ w1.heap.size := by have := hg1.size; simp at this; omega
    have HC : Hid (ChgB w w1 P (.slice oa ps.op.length oc)) := by
      refine ⟨hg1.os, hg1.tape, hg1.output, hsz, fun j h1 h2 h3 => ?_⟩
      exact (hg1.block j (by simp; omega) h3).trans (Below.heap_alloc _ _ _ h1)
    have HST : Hid (PkOK (w1.setCell ⟨P, 1, none⟩ (.slice (some ⟨g, 0, none⟩) (ps.op.length + 1) cap)) P B (some ⟨g, 0, none⟩) cap (enterF ps)) := by
      have e : (enterF ps).op.length = ps.op.length + 1 := by simp [enterF]
      refine ⟨(cellO w1 _ _ _ _ (by decide)).trans q0, ?_, by simpa using p0, by simpa using p1, ?_, hlt, by simp; omega, by rw [e]; omega, hran⟩
      · rw [e]; exact cellS _ q1
      · rw [e]
        have e2 : opC (enterF ps).op = opC ps.op ++ [.int .i64 ps.now, .int .i64 ps.now] := by simp [opC, enterF]
        rw [e2]
        exact own_far hown1 (fun k hk => set_far w1 P 1 _ k (by have := (hown1.lt k hk).1; omega))
    have HO := hidS hat1
    clear hown1 hg1 hbk hown c0 c1 f0 f1 hat1
    go_wp2
    go_end0
    refine ⟨rfl, HC.out.set 1 _, some ⟨g, 0, none⟩, cap, HST.out, ?_⟩
    rcases HO.out with h1 | h1
    · exact .inl h1.symm
    · exact .inr ⟨g, by simp at h1; omega, rfl⟩
end Go.Proofs.YtponicaflcbbeaaGreat
namespace Go.Proofs.YtponicaflcbbeaaGreat
set_option linter.unusedVariables false
def enG (β : Nat → Nat) (gs : List Gp) : En := fun t x y => ∃ g, hasG gs (β t) x = some g ∧ g.en = (y : Int)
theorem hasG_app (gs l : List Gp) (b f : Nat) : hasG (gs ++ l) b f = match hasG gs b f with
    | some g => some g
    | none => hasG l b f := by
  unfold hasG
  rw [List.find?_append]
  cases gs.find? fun g => decide (g.b = b ∧ g.f = f) <;> rfl
theorem hasG_mem {gs : List Gp} {b f : Nat} {g : Gp} (h : hasG gs b f = some g) : g ∈ gs ∧ g.b = b ∧ g.f = f := by
  have h1 := List.mem_of_find?_eq_some h
  have h2 := List.find?_some h
  simp at h2
  exact ⟨h1, h2.1, h2.2⟩
theorem hasG_some {gs : List Gp} {g : Gp} (h : g ∈ gs) : (hasG gs g.b g.f).isSome = true := by
  unfold hasG
  rw [List.find?_isSome]
  exact ⟨g, h, by simp⟩
theorem enG_app (β : Nat → Nat) (gs l : List Gp) (h : ∀ g ∈ l, g.en = -1) (t x y : Nat) : enG β (gs ++ l) t x y ↔ enG β gs t x y := by
  unfold enG
  rw [hasG_app]
  cases hg : hasG gs (β t) x with
  | some g => simp
  | none =>
    simp only
    constructor
    · rintro ⟨g, h1, h2⟩
      have := h g (hasG_mem h1).1
      omega
    · rintro ⟨g, h1, _⟩; cases h1
def NodG (gs : List Gp) : Prop := gs.Pairwise fun g h => ¬ (g.b = h.b ∧ g.f = h.f)
structure Rcd (A : List Ak) (β : Nat → Nat) (V : Ev → Prop) (fs fs' : FS) : Prop where
  cmM : ∀ j c, fs.cm j c = true → fs'.cm j c = true
  cmS : ∀ j c, fs'.cm j c = true → fs.cm j c = true ∨ ∃ a, A[j]? = some a ∧ V (.use a.at' c)
  cmC : ∀ n c, V (.use n c) → ∃ j a, A[j]? = some a ∧ a.at' = n ∧ fs'.cm j c = true
  gsP : ∃ l, fs'.gs = fs.gs ++ l ∧ ∀ g ∈ l, g.en = -1 ∧ ∃ t, V (.call t g.f) ∧ g.b = β t
  gsC : ∀ t x, V (.call t x) → (hasG fs'.gs (β t) x).isSome = true
  grw : fs'.grew = false → fs.grew = false ∧ fs'.gs = fs.gs
  grM : fs.grew = true → fs'.grew = true
  nod : NodG fs.gs → NodG fs'.gs
  grT : fs'.grew = true → fs.grew = true ∨ fs.gs.length < fs'.gs.length
theorem Rcd.refl (A : List Ak) (β : Nat → Nat) (V : Ev → Prop) (fs : FS) (h1 : ∀ n c, ¬ V (.use n c)) (h2 : ∀ t x, ¬ V (.call t x)) : Rcd A β V fs fs :=
  ⟨fun _ _ h => h, fun _ _ h => .inl h, fun n c h => absurd h (h1 n c), ⟨[], by simp, fun g hg => absurd hg (by simp)⟩, fun t x h => absurd h (h2 t x), fun h => ⟨h, rfl⟩, fun h => h, fun h => h, fun h => .inl h⟩
theorem hasG_pre {gs l : List Gp} {b f : Nat} (h : (hasG gs b f).isSome = true) : (hasG (gs ++ l) b f).isSome = true := by
  rw [hasG_app]
  cases hg : hasG gs b f with
  | some g => rfl
  | none => rw [hg] at h; cases h
theorem Rcd.trans {A : List Ak} {β : Nat → Nat} {V1 V2 V : Ev → Prop} {a b c : FS} (h : Rcd A β V1 a b) (k : Rcd A β V2 b c) (hV : ∀ e, e ≠ .bad → (V e ↔ V1 e ∨ V2 e)) : Rcd A β V a c := by
  obtain ⟨l1, e1, p1⟩ := h.gsP
  obtain ⟨l2, e2, p2⟩ := k.gsP
  refine ⟨fun j x q => k.cmM j x (h.cmM j x q), fun j x q => ?_, fun n x q => ?_, ⟨l1 ++ l2, by rw [e2, e1, List.append_assoc], fun g hg => ?_⟩, fun t x q => ?_, fun q => ?_, fun q => k.grM (h.grM q), fun q => k.nod (h.nod q), fun q => ?_⟩
  · rcases k.cmS j x q with q | ⟨y, q1, q2⟩
    · rcases h.cmS j x q with q | ⟨y, q1, q2⟩
      · exact .inl q
      · exact .inr ⟨y, q1, (hV _ (by simp)).2 (.inl q2)⟩
    · exact .inr ⟨y, q1, (hV _ (by simp)).2 (.inr q2)⟩
  · rcases (hV _ (by simp)).1 q with q | q
    · obtain ⟨j, y, q1, q2, q3⟩ := h.cmC n x q
      exact ⟨j, y, q1, q2, k.cmM j x q3⟩
    · exact k.cmC n x q
  · rcases List.mem_append.1 hg with hg | hg
    · obtain ⟨q1, t, q2, q3⟩ := p1 g hg
      exact ⟨q1, t, (hV _ (by simp)).2 (.inl q2), q3⟩
    · obtain ⟨q1, t, q2, q3⟩ := p2 g hg
      exact ⟨q1, t, (hV _ (by simp)).2 (.inr q2), q3⟩
  · rcases (hV _ (by simp)).1 q with q | q
    · rw [e2]; exact hasG_pre (h.gsC t x q)
    · exact k.gsC t x q
  · obtain ⟨q1, q2⟩ := k.grw q
    obtain ⟨q3, q4⟩ := h.grw q1
    exact ⟨q3, q2.trans q4⟩
  · have n1 : a.gs.length ≤ b.gs.length := by rw [e1]; simp
    have n2 : b.gs.length ≤ c.gs.length := by rw [e2]; simp
    rcases k.grT q with q | q
    · rcases h.grT q with q | q
      · exact .inl q
      · right; omega
    · right; omega
theorem Rcd.en {A : List Ak} {β : Nat → Nat} {V : Ev → Prop} {a b : FS} (h : Rcd A β V a b) (E : En) (hE : ∀ t x y, enG β a.gs t x y ↔ E t x y) : ∀ t x y, enG β b.gs t x y ↔ E t x y := by
  obtain ⟨l, e, p⟩ := h.gsP
  intro t x y
  rw [e, enG_app β a.gs l (fun g hg => (p g hg).1)]
  exact hE t x y
/-- how a part of the way comes out -/
def Outc (s : ByteArray) (A : List Ak) (ts : List Tm) (β : Nat → Nat) (E : En) (b : Nds) (x0 : Int) (q e : Nat) (run : Option (Int × FS)) (kont : PS → FS → Option (Int × FS)) (op : List (Int × Int)) (fs : FS) : Prop :=
  (run = none ∧ evt ts E b (opt x0) .bad) ∨ ∃ (y : Int) (fs' : FS), run = kont ⟨y, op⟩ fs' ∧ (-1 ≤ y ∧ y ≤ 23) ∧ (y ≠ -1 → rdF y (s.extract q e) ≠ -1) ∧ (∀ z, sem ts E b (opt x0) z ↔ opt (rdF y (s.extract q e)) z) ∧ ¬ evt ts E b (opt x0) .bad ∧ Rcd A β (evt ts E b (opt x0)) fs fs'
theorem good_cons {s : ByteArray} {A : List Ak} {ts : List Tm} {β : Nat → Nat} {E : En} {k a : Int} {nm : ByteArray} {th el r : Nds} {tw : Bool} {x0 xm : Int} {q e : Nat} {run : Option (Int × FS)} {kont : PS → FS → Option (Int × FS)} {op : List (Int × Int)} {fs fsm : FS}
    (hps : ∀ z, psem ts E k nm (sem ts E th) (sem ts E el) tw (opt x0) z ↔ opt xm z) (hpb : ¬ pevt ts E k a nm (sem ts E th) (evt ts E th) (evt ts E el) tw (opt x0) .bad) (R1 : Rcd A β (pevt ts E k a nm (sem ts E th) (evt ts E th) (evt ts E el) tw (opt x0)) fs fsm)
    (h : Outc s A ts β E r xm q e run kont op fsm) : Outc s A ts β E (.cons k a nm th el tw r) x0 q e run kont op fs := by
  have hps' : psem ts E k nm (sem ts E th) (sem ts E el) tw (opt x0) = opt xm := funext fun z => propext (hps z)
  rcases h with ⟨h1, h2⟩ | ⟨y, fs', h1, h2, h3, h4, h5, h6⟩
  · refine .inl ⟨h1, .inr (.inr ?_)⟩
    rw [hps']; exact h2
  · refine .inr ⟨y, fs', h1, h2, h3, fun z => ?_, ?_, R1.trans h6 (fun ev hev => ?_)⟩
    · show sem ts E r (psem ts E k nm (sem ts E th) (sem ts E el) tw (opt x0)) z ↔ _
      rw [hps']; exact h4 z
    · rintro (⟨_, q⟩ | q | q)
      · exact opt_two x0 q
      · exact hpb q
      · rw [hps'] at q; exact h5 q
    · constructor
      · rintro (⟨q, _⟩ | q | q)
        · exact absurd q hev
        · exact .inl q
        · rw [hps'] at q; exact .inr q
      · rintro (q | q)
        · exact .inr (.inl q)
        · refine .inr (.inr ?_); rw [hps']; exact q
theorem bad_piece {s : ByteArray} {A : List Ak} {ts : List Tm} {β : Nat → Nat} {E : En} {k a : Int} {nm : ByteArray} {th el r : Nds} {tw : Bool} {x0 : Int} {q e : Nat} {run : Option (Int × FS)} {kont : PS → FS → Option (Int × FS)} {op : List (Int × Int)} {fs : FS}
    (h : run = none) (hb : pevt ts E k a nm (sem ts E th) (evt ts E th) (evt ts E el) tw (opt x0) .bad) : Outc s A ts β E (.cons k a nm th el tw r) x0 q e run kont op fs := .inl ⟨h, .inr (.inl hb)⟩
theorem hdA_at (s : ByteArray) (pre rest : List Ak) (a : Ak) : hdA s (pre ++ a :: rest) pre.length = s.extract (lastN s 0 pre) a.at' := by
  unfold hdA
  have e1 : (pre ++ a :: rest)[pre.length]? = some a := by rw [List.getElem?_append_right (Nat.le_refl _)]; simp
  rw [e1, List.take_left]
theorem runF_at (s : ByteArray) (A pre rest : List Ak) (a : Ak) (hA : A = pre ++ a :: rest) (ps : PS) (fs : FS) : runF s A (a :: rest) pre.length ps fs =
    if ps.now ≠ -1 ∧ rdF ps.now (s.extract (lastN s 0 pre) a.at') = -1 then none
    else if a.kind = 2 then some (rdF ps.now (s.extract (lastN s 0 pre) a.at'), fs)
    else match takeF A pre.length a.kind a.name { ps with now := rdF ps.now (s.extract (lastN s 0 pre) a.at') } fs with
      | none => none
      | some (ps', fs') => runF s A rest (pre.length + 1) ps' fs' := by
  have h := hdA_at s pre rest a
  rw [← hA] at h
  simp only [runF]
  rw [h]
  all_goals rfl
theorem runF_go (s : ByteArray) (A pre rest : List Ak) (a : Ak) (hA : A = pre ++ a :: rest) (ps : PS) (fs : FS) (h1 : ps.now ≠ -1 → rdF ps.now (s.extract (lastN s 0 pre) a.at') ≠ -1) (h2 : a.kind ≠ 2) : runF s A (a :: rest) pre.length ps fs =
    match takeF A pre.length a.kind a.name { ps with now := rdF ps.now (s.extract (lastN s 0 pre) a.at') } fs with
      | none => none
      | some (ps', fs') => runF s A rest (pre ++ [a]).length ps' fs' := by
  rw [runF_at s A pre rest a hA, if_neg (fun q => h1 q.1 q.2), if_neg h2]
  simp
theorem runF_lost (s : ByteArray) (A pre rest : List Ak) (a : Ak) (hA : A = pre ++ a :: rest) (ps : PS) (fs : FS) (p : Nat) (h1 : ps.now ≠ -1) (hx : -1 ≤ ps.now ∧ ps.now ≤ 23) (hp : lastN s 0 pre ≤ p) (hpa : p ≤ a.at') (ha : a.at' ≤ s.size) (hl : rdF ps.now (s.extract (lastN s 0 pre) p) = -1) : runF s A (a :: rest) pre.length ps fs = none := by
  rw [runF_at s A pre rest a hA, if_pos]
  exact ⟨h1, by rw [rd_cat s ps.now _ p _ hp hpa ha hx, hl, rd_none]⟩
theorem Flat.head {s : ByteArray} {d p e : Nat} {b : Nds} {A : List Ak} (h : Flat s d b p A e) : A = [] ∨ ∃ c rest, A = c :: rest ∧ p ≤ c.at' ∧ c.at' ≤ s.size := by
  induction h with
  | nil d p => exact .inl rfl
  | @text d p e r A h k ih =>
    rcases ih with ih | ⟨c, rest, h1, h2, h3⟩
    · exact .inl ih
    · exact .inr ⟨c, rest, h1, by omega, h3⟩
  | @hole d p e r A h k ih => right; have := act_next s p (by omega); exact ⟨_, _, rfl, Nat.le_refl _, by show p ≤ _; omega⟩
  | @call d p e r A h k ih => right; have := act_next s p (by omega); exact ⟨_, _, rfl, Nat.le_refl _, by show p ≤ _; omega⟩
  | @loop d p e e1 th r A1 A hd h k1 h1 k2 ih1 ih => right; have := act_next s p (by omega); exact ⟨_, _, rfl, Nat.le_refl _, by show p ≤ _; omega⟩
  | @one d p e e1 th r A1 A hd h k1 h1 k2 ih1 ih => right; have := act_next s p (by omega); exact ⟨_, _, rfl, Nat.le_refl _, by show p ≤ _; omega⟩
  | @two d p e e1 e2 th el r A1 A2 A hd h k1 h1 k2 h2 k3 ih1 ih2 ih => right; have := act_next s p (by omega); exact ⟨_, _, rfl, Nat.le_refl _, by show p ≤ _; omega⟩
theorem lastN_snoc (s : ByteArray) (pre : List Ak) (a : Ak) : lastN s 0 (pre ++ [a]) = (act s a.at').next := by rw [lastN_app]; rfl
end Go.Proofs.YtponicaflcbbeaaGreat
