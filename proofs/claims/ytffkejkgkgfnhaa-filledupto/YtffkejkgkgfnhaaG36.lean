import Derived.Test.YtffkejkgkgfnhaaG32
import Derived.Test.YtffkejkgkgfnhaaG11
import Derived.Deep.AppendLies
namespace Go.Proofs.Ytffkejkgkgfnhaa
open Go.RowKit
set_option linter.unusedVariables false
set_option maxRecDepth 100000 in
set_option maxHeartbeats 2000000 in
theorem q5 (w : World) (c : Int) (n : Nat) (hc : -9223372036854775808 ≤ c ∧ c ≤ 9223372036854775807) (hn : 0 < n) (hn2 : n ≤ 1000) : Calls Try.prog 18 #[.int .i64 c, .int .i64 n] w fun e w' => (∃ r : Nat, r < n ∧ e = .returned (.int .i64 r)) ∧ w' = w := by
  by_cases h : c < 0
  · have hr : ∃ r : Nat, r < n ∧ (-(c + 1)).tmod (n : Int) = r := by
      rw [Int.tmod_eq_emod_of_nonneg (by omega)]
      have h1 := Int.emod_nonneg (-(c + 1)) (show (n : Int) ≠ 0 by omega)
      have h2 := Int.emod_lt_of_pos (-(c + 1)) (show (0 : Int) < n by omega)
      exact ⟨((-(c + 1)) % (n : Int)).toNat, by omega, by omega⟩
    obtain ⟨r, hr1, hr2⟩ := hr
    go_enter Try.func18, Try.ntmps18
    go_wp2
    go_ret
    exact ⟨⟨r, hr1, rfl⟩, rfl⟩
  · have hr : ∃ r : Nat, r < n ∧ c.tmod (n : Int) = r := by
      rw [Int.tmod_eq_emod_of_nonneg (by omega)]
      have h1 := Int.emod_nonneg c (show (n : Int) ≠ 0 by omega)
      have h2 := Int.emod_lt_of_pos c (show (0 : Int) < n by omega)
      exact ⟨(c % (n : Int)).toNat, by omega, by omega⟩
    obtain ⟨r, hr1, hr2⟩ := hr
    go_enter Try.func18, Try.ntmps18
    go_wp2
    go_ret
    exact ⟨⟨r, hr1, rfl⟩, rfl⟩
end Go.Proofs.Ytffkejkgkgfnhaa
namespace Go.Proofs.Ytffkejkgkgfnhaa
open Go.RowKit
set_option linter.unusedVariables false
def frA (k : Nat) : List UInt8 := match k with
  | 0 => [60, 98, 62]
  | 1 => [60, 97, 32, 116, 61, 34]
  | 2 => [60, 97, 32, 116, 61, 34, 49, 34, 32, 117, 61, 34]
  | 3 => [60, 115, 62, 102, 40]
  | 4 => [60, 115, 62, 103, 40, 39]
  | 5 => [60, 115, 32, 117, 61, 34]
  | _ => [60, 115, 32, 117, 117, 61, 34]
def frB (k : Nat) : List UInt8 := match k with
  | 0 => [60, 47, 98, 62]
  | 1 => [34, 62]
  | 2 => [34, 32, 118, 61, 34, 50, 34, 62]
  | 3 => [41, 60, 47, 115, 62]
  | 4 => [39, 41, 60, 47, 115, 62]
  | 5 => [34, 62, 60, 47, 115, 62]
  | _ => [34, 62, 49, 60, 47, 115, 62]
def frX (k : Nat) : Nat := match k with
  | 0 => 0
  | 1 => 15
  | 2 => 17
  | 3 => 19
  | 4 => 21
  | 5 => 18
  | _ => 16
theorem fr_cases (P : Nat → Prop) (h0 : P 0) (h1 : P 1) (h2 : P 2) (h3 : P 3) (h4 : P 4) (h5 : P 5) (h6 : ∀ k, P (k + 6)) (k : Nat) : P k := by
  match k with
  | 0 => exact h0
  | 1 => exact h1
  | 2 => exact h2
  | 3 => exact h3
  | 4 => exact h4
  | 5 => exact h5
  | k + 6 => exact h6 k
structure FrOK (k : Nat) : Prop where
  a : scl 0 (frA k) = frX k
  b : scl (frX k) (frB k) = 0
  o : opS (frX k) = true
  o' : opB (frX k : Int) = true
  ne : frA k ≠ []
  ta : ∀ u ∈ frA k, u.toNat ≠ 123 ∧ u.toNat ≠ 125
  tb : ∀ u ∈ frB k, u.toNat ≠ 123 ∧ u.toNat ≠ 125
  lt : frX k < 24
  la : (frA k).length ≤ 12
  lb : (frB k).length ≤ 8
theorem fr_ok6 : FrOK 6 := ⟨by decide, by decide, by decide, by decide, by simp [frA], by simp [frA], by simp [frB], by decide, by decide, by decide⟩
theorem fr_ok (k : Nat) : FrOK k := by
  refine fr_cases FrOK ?_ ?_ ?_ ?_ ?_ ?_ (fun k => ⟨fr_ok6.a, fr_ok6.b, fr_ok6.o, fr_ok6.o', fr_ok6.ne, fr_ok6.ta, fr_ok6.tb, fr_ok6.lt, fr_ok6.la, fr_ok6.lb⟩) k
  all_goals exact ⟨by decide, by decide, by decide, by decide, by simp [frA], by simp [frA], by simp [frB], by decide, by decide, by decide⟩
structure Hl where
  nm : List UInt8
  k : Nat
  t : ByteArray
def fil (pre : List UInt8) : List Hl → Sr
  | [] => if pre = [] then .nil else .text pre .nil
  | h :: r => .text (pre ++ frA h.k) (.hole h.nm (fil (frB h.k) r))
def filO : List Hl → List UInt8
  | [] => []
  | h :: r => frA h.k ++ ([123] ++ h.nm ++ [125]) ++ frB h.k ++ filO r
theorem fil_out : ∀ (L : List Hl) (pre : List UInt8), (fil pre L).out = pre ++ filO L
  | [], pre => by
    unfold fil; split
    · rename_i e; subst e; rfl
    · simp [Sr.out, filO]
  | h :: r, pre => by
    simp only [fil, Sr.out, filO, fil_out r]
    simp
theorem fil_ok : ∀ (L : List Hl) (pre : List UInt8) (d : Nat), (∀ u ∈ pre, u.toNat ≠ 123 ∧ u.toNat ≠ 125) → (∀ h ∈ L, nmL h.nm) → (fil pre L).ok d
  | [], pre, d, hp, _ => by
    unfold fil; split
    · trivial
    · rename_i e; exact ⟨⟨e, hp⟩, rfl, trivial⟩
  | h :: r, pre, d, hp, hn => by
    have f := fr_ok h.k
    refine ⟨⟨fun e => f.ne (List.append_eq_nil_iff.1 e).2, fun u hu => ?_⟩, rfl, hn h (by simp), fil_ok r _ d f.tb (fun x hx => hn x (by simp [hx]))⟩
    rcases List.mem_append.1 hu with q | q
    · exact hp u q
    · exact f.ta u q
def posL (p : Nat) (pre : List UInt8) : List Hl → List (Nat × Nat)
  | [] => []
  | h :: r => (p + (pre ++ frA h.k).length, frX h.k) :: posL (p + (pre ++ frA h.k).length + (h.nm.length + 2)) (frB h.k) r
theorem fil_walk (ts : List Tm) : ∀ (L : List Hl) (pre : List UInt8) (p c : Nat), c < 24 → scl c pre = 0 → walkF C0 ts ((fil pre L).nds p) c = some ⟨0, posL p pre L, []⟩
  | [], pre, p, c, hc, h => by
    unfold fil; split
    · rename_i e; subst e
      have : c = 0 := by have : (c : Int) = 0 := h
                         omega
      subst this; rfl
    · have e : scn (c : Int) (mkB pre).data.toList = 0 := by rw [mkB_list, scn_in _ _ (by omega) (by omega)]; exact h
      simp only [Sr.nds, walkF, pieceW, seqW]
      simp [e, posL]
  | h :: r, pre, p, c, hc, hs => by
    have f := fr_ok h.k
    have e : scn (c : Int) (mkB (pre ++ frA h.k)).data.toList = frX h.k := by rw [mkB_list, scn_in _ _ (by omega) (by omega), scl_append, hs]; exact f.a
    have ih := fil_walk ts r (frB h.k) (p + (pre ++ frA h.k).length + (h.nm.length + 2)) (frX h.k) f.lt f.b
    simp only [fil, Sr.nds, walkF, pieceW, seqW]
    have e2 : ¬ ((frX h.k : Int) = -1) := by omega
    simp only [if_true, e, e2, if_false, Int.toNat_natCast, show ¬ ((2 : Int) = 1) by decide, f.o]
    rw [ih]
    simp only [List.nil_append, posL, List.cons_append]
def wantL : List Hl → List UInt8
  | [] => []
  | h :: r => frA h.k ++ btsW (escL (frX h.k) h.t.data.toList) ++ frB h.k ++ wantL r
theorem fil_page (ts : List Tm) (R : List Dat) : ∀ (L : List Hl) (pre : List UInt8) (p c : Nat), c < 24 → scl c pre = 0 → (∀ h ∈ L, lkp (mkB h.nm) R = some (mkB h.nm, false, h.t, .nil)) → bdyP (ppg ts 0) ts R ((fil pre L).nds p) c = some ⟨pre ++ wantL L, L.length, 0⟩
  | [], pre, p, c, hc, h, _ => by
    unfold fil; split
    · rename_i e; subst e
      have : (c : Int) = 0 := h
      simp only [Sr.nds, bdyP, wantL]; rw [this]; rfl
    · simp only [Sr.nds, bdyP, txtP, mkB_list, h]
      simp [seqP, wantL]
  | h :: r, pre, p, c, hc, hs, hl => by
    have f := fr_ok h.k
    have ih := fil_page ts R r (frB h.k) (p + (pre ++ frA h.k).length + (h.nm.length + 2)) (frX h.k) f.lt f.b (fun x hx => hl x (by simp [hx]))
    have e : scl (c : Int) (pre ++ frA h.k) = frX h.k := by rw [scl_append, hs]; exact f.a
    have e2 : ¬ ((frX h.k : Int) = -1) := by omega
    simp only [fil, Sr.nds, bdyP, txtP, mkB_list, e, e2, if_true, if_false, insP, hl h (by simp)]
    simp only [seqP, addK, fldP, show ¬ ((2 : Int) = 1) by decide, show ¬ ((2 : Int) = 5) by decide, if_true, if_false, f.o', Bool.false_eq_true]
    rw [ih]
    simp only [Option.some.injEq, Pg1.mk.injEq, and_true, wantL, List.length_cons, List.append_assoc]
    exact ⟨trivial, by omega⟩
def fiTs (L : List Hl) : List Tm := [tmTm [97] (fil [] L) 0]
theorem fi_fnd (L : List Hl) : fndF (mkB [97]) (fiTs L) 0 = 0 := by simp [fiTs, fndF, tmTm, nmEq_mkB]
theorem fi_tno (L : List Hl) : tno (fiTs L) (mkB [97]) = 0 := by simp [tno, fi_fnd]
theorem filO_len : ∀ (L : List Hl), (∀ h ∈ L, h.nm.length ≤ 1) → (filO L).length ≤ 23 * L.length
  | [], _ => by simp [filO]
  | h :: r, hn => by
    have := filO_len r (fun x hx => hn x (by simp [hx]))
    have f := fr_ok h.k
    have h1 := f.la
    have h2 := f.lb
    have h3 := hn h (by simp)
    simp only [filO, List.length_append, List.length_cons, List.length_nil]
    omega
theorem fil_unk (ts : List Tm) : ∀ (L : List Hl) (pre : List UInt8) (p : Nat), unk ts ((fil pre L).nds p) < 0
  | [], pre, p => by unfold fil; split <;> simp [Sr.nds, unk]
  | h :: r, pre, p => by
    have := fil_unk ts r (frB h.k) (p + (pre ++ frA h.k).length + (h.nm.length + 2))
    simp only [fil, Sr.nds, unk]
    simpa using this
theorem fi_reads (L : List Hl) (hn : ∀ h ∈ L, nmL h.nm) (h1 : ∀ h ∈ L, h.nm.length ≤ 1) (hl : L.length ≤ 8) : Reads (mkB (tmOut [97] (fil [] L))) (fiTs L) := by
  refine reads_one (nmL_one 97 (by decide)) (fil_ok L [] 0 (by simp) hn) ?_ (fil_unk _ L [] _)
  have := filO_len L h1
  simp only [tmOut, fil_out, List.length_append, List.length_cons, List.length_nil]
  omega
theorem posL_gt : ∀ (L : List Hl) (pre : List UInt8) (p : Nat), ∀ q ∈ posL p pre L, p ≤ q.1 ∧ q.2 < 24
  | [], pre, p, q, h => by cases h
  | h :: r, pre, p, q, hq => by
    simp only [posL] at hq
    rcases List.mem_cons.1 hq with rfl | hq
    · exact ⟨by simp only; omega, (fr_ok h.k).lt⟩
    · have := posL_gt r (frB h.k) _ q hq
      exact ⟨by omega, this.2⟩
theorem posL_srt : ∀ (L : List Hl) (pre : List UInt8) (p : Nat), Srt (posL p pre L)
  | [], pre, p => List.Pairwise.nil
  | h :: r, pre, p => by
    refine List.Pairwise.cons (fun q hq => ?_) (posL_srt r _ _)
    have := posL_gt r (frB h.k) _ q hq
    have := (fr_ok h.k).lt
    simp only
    omega
theorem fi_walk (L : List Hl) : WSpec (fiTs L) (mkB [97]) 0 (posL 4 [] L) := by
  refine wspec_one (fiTs L) (mkB [97]) ⟨0, posL 4 [] L, []⟩ (by rw [fi_fnd]; decide) ?_ rfl (posL_srt L [] 4) (fun q hq => (posL_gt L [] 4 q hq).2)
  rw [fi_tno]
  exact fil_walk (fiTs L) L [] 4 0 (by decide) rfl
def fiDat : List Hl → Dat
  | [] => .nil
  | h :: r => fldD h.nm h.t (fiDat r)
theorem fi_lkp : ∀ (L : List Hl), L.Pairwise (fun a b => a.nm ≠ b.nm) → ∀ h ∈ L, (fiDat L).fnd (mkB h.nm) = some (mkB h.nm, false, h.t, .nil)
  | [], _, h, hh => by cases hh
  | a :: r, hp, h, hh => by
    obtain ⟨h1, h2⟩ := List.pairwise_cons.1 hp
    simp only [fiDat, fldD, Dat.fnd]
    rcases List.mem_cons.1 hh with rfl | hh
    · rw [if_pos (nm_self _)]
    · have : nmEq (mkB a.nm) (mkB h.nm) = false := by rw [nmEq_mkB]; exact beq_eq_false_iff_ne.2 (h1 h hh)
      rw [if_neg (by rw [this]; decide)]
      exact fi_lkp r h2 h hh
theorem fi_page (L : List Hl) (hp : L.Pairwise (fun a b => a.nm ≠ b.nm)) : ppg (fiTs L) 1 (bod (fiTs L) 0) [fiDat L] 0 = some ⟨wantL L, L.length, 0⟩ := by
  have := fil_page (fiTs L) [fiDat L] L [] 4 0 (by decide) rfl (fun h hh => by rw [lkp_one]; exact fi_lkp L hp h hh)
  exact this
end Go.Proofs.Ytffkejkgkgfnhaa
namespace Go.Proofs.Ytffkejkgkgfnhaa
open Go.RowKit
set_option linter.unusedVariables false
theorem filO_snoc (L : List Hl) (h : Hl) : filO (L ++ [h]) = filO L ++ (frA h.k ++ ([123] ++ h.nm ++ [125]) ++ frB h.k) := by
  induction L with
  | nil => simp [filO]
  | cons a r ih => simp [filO, ih]
theorem wantL_snoc (L : List Hl) (h : Hl) : wantL (L ++ [h]) = wantL L ++ (frA h.k ++ btsW (escL (frX h.k) h.t.data.toList) ++ frB h.k) := by
  induction L with
  | nil => simp [wantL]
  | cons a r ih => simp [wantL, ih]
theorem posL_snoc (h : Hl) : ∀ (L : List Hl) (pre : List UInt8) (p : Nat), posL p pre (L ++ [h]) = posL p pre L ++ [(p + (pre ++ filO L).length + (frA h.k).length, frX h.k)]
  | [], pre, p => by simp [posL, filO]; omega
  | a :: r, pre, p => by
    have ih := posL_snoc h r (frB a.k) (p + (pre ++ frA a.k).length + (a.nm.length + 2))
    simp only [List.cons_append, posL, ih]
    congr 3
    simp only [filO, List.length_append, List.length_cons, List.length_nil, Prod.mk.injEq, and_true]
    omega
theorem posL_len : ∀ (L : List Hl) (pre : List UInt8) (p : Nat), (posL p pre L).length = L.length
  | [], pre, p => rfl
  | a :: r, pre, p => by simp [posL, posL_len r]
def fdC : List Hl → List Value
  | [] => []
  | h :: r => [.string (mkB h.nm), .bool false, .string h.t, .slice none 0 0] ++ fdC r
theorem fdC_snoc (L : List Hl) (h : Hl) : fdC (L ++ [h]) = fdC L ++ [.string (mkB h.nm), .bool false, .string h.t, .slice none 0 0] := by
  induction L with
  | nil => rfl
  | cons a r ih => simp [fdC, ih]
theorem fiDat_len : ∀ (L : List Hl), (fiDat L).len = L.length
  | [] => rfl
  | a :: r => by simp [fiDat, fldD, Dat.len, fiDat_len r]
theorem fiDat_ok : ∀ (L : List Hl), (fiDat L).ok false
  | [] => trivial
  | a :: r => ⟨trivial, fiDat_ok r⟩
theorem fiDat_fits : ∀ (L : List Hl), (∀ h ∈ L, h.t.size ≤ maxLen) → (fiDat L).fits
  | [], _ => trivial
  | a :: r, h => ⟨h a (by simp), trivial, fiDat_fits r (fun x hx => h x (by simp [hx]))⟩
theorem fd_at {w : World} {A : Nat → Prop} {g : Nat} : ∀ (L : List Hl) (off : Nat), (∀ j u, (fdC L)[j]? = some u → w.cell? ⟨g, off + j, none⟩ = some u) → DatAtA w A (fiDat L) g off
  | [], off, _ => trivial
  | a :: r, off, h => by
    refine ⟨h 0 _ rfl, h 1 _ rfl, h 2 _ rfl, ⟨none, 0, h 3 _ rfl, Nat.le_refl _, Nat.zero_le _, .inl rfl⟩, fd_at r (off + 4) (fun j u hj => ?_)⟩
    have := h (4 + j) u (by simp only [fdC]; rw [List.getElem?_append_right (by simp)]; simpa using hj)
    rw [← Nat.add_assoc] at this
    exact this
def namO (i : Nat) : List UInt8 := [UInt8.ofNat (97 + i)]
/-- what the loop has made so far -/
structure FiL (L : List Hl) : Prop where
  nm : ∀ (i : Nat) (hi : i < L.length), L[i].nm = namO i
  t : ∀ h ∈ L, h.t.size ≤ 1048576
  le : L.length ≤ 8
theorem FiL.snoc {L : List Hl} (h : FiL L) (hl : L.length < 8) (k : Nat) (t : ByteArray) (ht : t.size ≤ 1048576) : FiL (L ++ [⟨namO L.length, k, t⟩]) := by
  refine ⟨fun i hi => ?_, fun x hx => ?_, by simp; omega⟩
  · by_cases q : i < L.length
    · rw [List.getElem_append_left q]; exact h.nm i q
    · have : i = L.length := by simp at hi; omega
      subst this
      simp
  · rcases List.mem_append.1 hx with q | q
    · exact h.t x q
    · simp at q; subst q; exact ht
theorem namO_ok (i : Nat) (h : i < 8) : nmL (namO i) ∧ (namO i).length ≤ 1 := by
  refine ⟨?_, by simp [namO]⟩
  have : i = 0 ∨ i = 1 ∨ i = 2 ∨ i = 3 ∨ i = 4 ∨ i = 5 ∨ i = 6 ∨ i = 7 := by omega
  rcases this with rfl | rfl | rfl | rfl | rfl | rfl | rfl | rfl <;> exact nmL_one _ (by decide)
theorem namO_inj (i j : Nat) (hi : i < 8) (hj : j < 8) (h : namO i = namO j) : i = j := by
  simp only [namO, List.cons.injEq, and_true] at h
  have h1 := congrArg UInt8.toNat h
  simp only [UInt8.toNat_ofNat'] at h1
  omega
theorem FiL.names {L : List Hl} (h : FiL L) : ∀ x ∈ L, nmL x.nm ∧ x.nm.length ≤ 1 := by
  intro x hx
  obtain ⟨i, hi, rfl⟩ := List.getElem_of_mem hx
  rw [h.nm i hi]
  exact namO_ok i (by have := h.le; omega)
theorem FiL.pair {L : List Hl} (h : FiL L) : L.Pairwise (fun a b => a.nm ≠ b.nm) := by
  rw [List.pairwise_iff_getElem]
  intro i j hi hj hij e
  rw [h.nm i hi, h.nm j hj] at e
  have := h.le
  have := namO_inj i j (by omega) (by omega) e
  omega
theorem wantL_len : ∀ (L : List Hl), (∀ h ∈ L, h.t.size ≤ 1048576) → (wantL L).length ≤ 6291490 * L.length
  | [], _ => by simp [wantL]
  | a :: r, h => by
    have ih := wantL_len r (fun x hx => h x (by simp [hx]))
    have f := fr_ok a.k
    have h1 := f.la
    have h2 := f.lb
    have h3 := h a (by simp)
    have h4 := acc_len (frX a.k) a.t.data.toList
    have h5 := (pre_ok (frX a.k)).2
    have e : a.t.data.toList.length = a.t.size := rfl
    simp only [wantL, List.length_append, List.length_cons, btsW, List.length_map, escL]
    omega
theorem fi_lit (L : List Hl) : mkB [123, 43, 97, 125] ++ mkB (filO L) ++ mkB [123, 45, 125] = mkB (tmOut [97] (fil [] L)) := by
  rw [← mkB_app, ← mkB_app]
  congr 1
  simp [tmOut, fil_out]
theorem mkB_escF (c : Int) (t : ByteArray) : mkB (btsW (escL c t.data.toList)) = escB c t := by
  apply ByteArray.ext
  apply Array.ext'
  rw [mkB_list]
  exact (numsW _).symm
set_option maxHeartbeats 1000000 in
theorem qescF (c : Int) (s : ByteArray) (w : World) (h : opB c = true) (hs : s.size ≤ 1048576) : Calls Try.prog 20 #[.int .i64 c, .string s] w fun e w' => e = .returned (.string (escB c s)) ∧ Below w.heap.size w w' := by
  have Hc := hidS (c11 c s w h hs)
  clear h
  change Hid (Calls Try.prog 11 _ w fun e w' => e = .returned (.tuple #[.string (escB c s), .int .i64 0]) ∧ _) at Hc
  generalize escB c s = E at *
  go_enter Try.func20, Try.ntmps20
  go_wp2_with fail
  refine Hc.out.mono ?_
  rintro e w1 ⟨rfl, hb⟩
  go_wp2
  go_ret
  exact ⟨rfl, hb⟩
set_option maxHeartbeats 2000000 in
theorem qframe (k : Nat) (w : World) : Calls Try.prog 17 #[.int .i64 k] w fun e w' => e = .returned (.tuple #[.string (mkB (frA k)), .string (mkB (frB k)), .int .i64 (frX k)]) ∧ w' = w := by
  refine fr_cases (fun k => Calls Try.prog 17 #[.int .i64 (k : Nat)] w fun e w' => e = .returned (.tuple #[.string (mkB (frA k)), .string (mkB (frB k)), .int .i64 (frX k)]) ∧ w' = w) ?_ ?_ ?_ ?_ ?_ ?_ (fun k => ?_) k
  case refine_7 =>
    have e0 : (((k + 6 : Nat) : Int) == 0) = false := by simp; omega
    have e1 : (((k + 6 : Nat) : Int) == 1) = false := by simp; omega
    have e2 : (((k + 6 : Nat) : Int) == 2) = false := by simp; omega
    have e3 : (((k + 6 : Nat) : Int) == 3) = false := by simp; omega
    have e4 : (((k + 6 : Nat) : Int) == 4) = false := by simp; omega
    have e5 : (((k + 6 : Nat) : Int) == 5) = false := by simp; omega
    generalize ((k + 6 : Nat) : Int) = kk at *
    go_enter Try.func17, Try.ntmps17
    go_wp2
    go_ret3
    exact ⟨rfl, rfl⟩
  all_goals
    go_enter Try.func17, Try.ntmps17
    go_wp2
    go_ret3
    exact ⟨rfl, rfl⟩
theorem useC_snoc (L : List (Nat × Nat)) (a c : Nat) : useC (L ++ [(a, c)]) = useC L ++ [.int .i64 a, .int .i64 c] := by simp [useC]
theorem infoUseF : (Try.prog.info? 47).map (fun i => (i.zero, i.size, i.bytes)) = some (some (.agg #[.int .i64 0, .int .i64 0]), 2, 16) := by kernel_rfl
theorem infoFld : (Try.prog.info? 50).map (fun i => (i.zero, i.size, i.bytes)) = some (some (.agg #[.string ⟨#[]⟩, .bool false, .string ⟨#[]⟩, .slice none 0 0]), 4, 64) := by kernel_rfl
theorem use_cellsF (w : World) (a b : Int) : ∀ (j : Nat) (u : Value), [Value.int .i64 a, .int .i64 b][j]? = some u → (w.alloc (.cells #[.int .i64 a, .int .i64 b] 47)).cell? ((⟨w.heap.size, 0, none⟩ : Addr).add j) = some u := by
  intro j u hj
  match j, hj with
  | 0, hj => simp at hj; subst hj; simp [Addr.add]
  | 1, hj => simp at hj; subst hj; simp [Addr.add]
  | j + 2, hj => simp at hj
theorem use_oneF (a b : Int) : ∀ u ∈ [Value.int .i64 a, .int .i64 b], u.oneCell' = true := by
  intro u hu; simp at hu; rcases hu with rfl | rfl <;> rfl
theorem fld_cellsF (w : World) (n t : ByteArray) : ∀ (j : Nat) (u : Value), [Value.string n, .bool false, .string t, .slice none 0 0][j]? = some u → (w.alloc (.cells #[.string n, .bool false, .string t, .slice none 0 0] 50)).cell? ((⟨w.heap.size, 0, none⟩ : Addr).add j) = some u := by
  intro j u hj
  match j, hj with
  | 0, hj => simp at hj; subst hj; simp [Addr.add]
  | 1, hj => simp at hj; subst hj; simp [Addr.add]
  | 2, hj => simp at hj; subst hj; simp [Addr.add]
  | 3, hj => simp at hj; subst hj; simp [Addr.add]
  | j + 4, hj => simp at hj
theorem fld_oneF (n t : ByteArray) : ∀ u ∈ [Value.string n, .bool false, .string t, .slice none 0 0], u.oneCell' = true := by
  intro u hu; simp at hu; rcases hu with rfl | rfl | rfl | rfl <;> rfl
theorem own_fmF {B ty sz : Nat} {w : World} {v : Value} {n : Nat} {xs : List Value} (h : w.ownsRow B ty sz v n xs) : ∃ a c, v = .slice a n c := by
  rcases h.2 with ⟨rfl, rfl⟩ | ⟨g, cap, cur, rfl, _⟩
  · exact ⟨none, 0, rfl⟩
  · exact ⟨_, cap, rfl⟩
theorem own_tyF {w : World} {base ty sz : Nat} {v : Value} {n : Nat} {xs : List Value} {g : Nat} (h : w.ownsRow base ty sz v n xs) (hg : v.ownBlock = some g) : ∃ cur, w.heap[g]? = some (.cells cur ty (0, 0)) := by
  rcases h.2 with ⟨rfl, _⟩ | ⟨g', cap, cur, rfl, _, hh, _⟩
  · cases hg
  · simp [Value.ownBlock] at hg; subst hg; exact ⟨cur, hh⟩
theorem own_farF {w : World} {b1 b2 n1 n2 s1 s2 t1 t2 : Nat} {v1 v2 : Value} {x1 x2 : List Value} (h1 : w.ownsRow b1 t1 s1 v1 n1 x1) (h2 : w.ownsRow b2 t2 s2 v2 n2 x2) (hne : t1 ≠ t2) (g : Nat) (e1 : v1.ownBlock = some g) : some g ≠ v2.ownBlock := by
  intro e2
  obtain ⟨c1, k1⟩ := own_tyF h1 e1
  obtain ⟨c2, k2⟩ := own_tyF h2 e2.symm
  rw [k1] at k2
  simp at k2
  exact hne k2.2
theorem nam_str (k : Nat) : strOfNums [97 + (k : Int)] = mkB (namO k) := by
  apply ByteArray.ext
  apply Array.ext'
  rw [strOfNums_data, mkB_list]
  have e : (97 + (k : Int)).toNat = 97 + k := by omega
  simp only [List.map_cons, List.map_nil, namO, e]
end Go.Proofs.Ytffkejkgkgfnhaa
