import Derived.Test.YtffkejkgkgfnhaaG32
namespace Go.Proofs.Ytffkejkgkgfnhaa
open Go.RowKit
set_option linter.unusedVariables false
def bareL (l : List UInt8) : Prop := ∀ u ∈ l, u.toNat ≠ 123 ∧ u.toNat ≠ 125
def tSr (l : List UInt8) : Sr := match l with
  | [] => .nil
  | _ => .text l .nil
theorem t_out (l : List UInt8) : (tSr l).out = l := by cases l <;> simp [tSr, Sr.out]
theorem t_ok (l : List UInt8) (d : Nat) (h : bareL l) : (tSr l).ok d := by
  cases l with
  | nil => trivial
  | cons u r => exact ⟨⟨by simp, h⟩, rfl, trivial⟩
theorem t_nds (l : List UInt8) (p : Nat) : (tSr l).nds p = if l = [] then .nil else .cons 1 p (mkB l) .nil .nil false .nil := by cases l <;> rfl
def eSr (s t : List UInt8) : Sr := .two [99] (tSr s) (tSr t) .nil
def eTs (s t : List UInt8) : List Tm := [tmTm [97] (eSr s t) 0]
theorem e_fnd (s t : List UInt8) : fndF (mkB [97]) (eTs s t) 0 = 0 := by simp [eTs, fndF, tmTm, nmEq_mkB]
theorem e_tno (s t : List UInt8) : tno (eTs s t) (mkB [97]) = 0 := by simp [tno, e_fnd]
theorem e_reads (s t : List UInt8) (hs : bareL s) (ht : bareL t) (h1 : s.length ≤ 150) (h2 : t.length ≤ 150) : Reads (mkB (tmOut [97] (eSr s t))) (eTs s t) := by
  refine reads_one (nmL_one 97 (by decide)) ⟨nmL_one 99 (by decide), by decide, t_ok s 1 hs, t_ok t 1 ht, trivial⟩ ?_ ?_
  · simp [tmOut, eSr, Sr.out, t_out]; omega
  · simp only [eSr, Sr.nds, t_nds]
    split <;> split <;> simp [unk]
theorem e_bod (s t : List UInt8) : bod (eTs s t) 0 = .cons 3 4 (mkB [99]) ((tSr s).nds 8) ((tSr t).nds (8 + s.length + 3)) true .nil := by
  show (eSr s t).nds 4 = _
  simp [eSr, Sr.nds, t_out]
theorem t_walk (C : Nat → Nat → Option Nat) (ts : List Tm) (l : List UInt8) (p x : Nat) (hx : x < 24) (h : scl x l ≠ -1) : walkF C ts ((tSr l).nds p) x = some ⟨(scl x l).toNat, [], []⟩ := by
  rw [t_nds]
  split
  · rename_i e; subst e; simp [walkF, scl]
  · have e : scn (x : Int) (mkB l).data.toList = scl x l := by rw [mkB_list, scn_in _ _ (by omega) (by omega)]
    simp only [walkF, pieceW, seqW]
    simp [e, h]
theorem e_walk (s t : List UInt8) (h1 : scl 0 s = 0) (h2 : scl 0 t = 0) : WSpec (eTs s t) (mkB [97]) 0 [] := by
  refine wspec_one (eTs s t) (mkB [97]) ⟨0, [], []⟩ (by rw [e_fnd]; decide) ?_ rfl (by simp [Srt]) (by simp)
  rw [e_tno, e_bod]
  have w1 := t_walk C0 (eTs s t) s 8 0 (by decide) (by show scl 0 s ≠ -1; rw [h1]; decide)
  have w2 := t_walk C0 (eTs s t) t (8 + s.length + 3) 0 (by decide) (by show scl 0 t ≠ -1; rw [h2]; decide)
  have e1 : (scl ((0 : Nat) : Int) s).toNat = 0 := by show (scl 0 s).toNat = 0; rw [h1]; rfl
  have e2 : (scl ((0 : Nat) : Int) t).toNat = 0 := by show (scl 0 t).toNat = 0; rw [h2]; rfl
  rw [e1] at w1
  rw [e2] at w2
  simp only [walkF, seqW]
  rw [w1, w2]
  rfl
theorem t_sem (ts : List Tm) (E : En) (l : List UInt8) (p : Nat) (h : scl 0 l ≠ -1) : sem ts E ((tSr l).nds p) (one 0) (scl 0 l).toNat := by
  have hr := scl_range 0 l (by omega)
  rw [t_nds]
  split
  · rename_i e; subst e; rfl
  · simp only [sem, psem, if_true]
    exact ⟨0, rfl, by rw [mkB_list]; show scn 0 l = _; rw [scn_in _ _ (by decide) (by decide)]; omega⟩
theorem t_bad (ts : List Tm) (E : En) (l : List UInt8) (p : Nat) (h : scl 0 l = -1) : evt ts E ((tSr l).nds p) (one 0) .bad := by
  rw [t_nds]
  split
  · rename_i e; subst e; cases h
  · refine .inr (.inl ?_)
    simp only [pevt, if_true]
    exact ⟨trivial, 0, rfl, by rw [mkB_list]; show scn 0 l = -1; rw [scn_in _ _ (by decide) (by decide)]; exact h⟩
theorem e_bad (s t : List UInt8) (h : scl 0 s ≠ 0 ∨ scl 0 t ≠ 0) : WSpec (eTs s t) (mkB [97]) 6 [] := by
  have tc := true_closed (eTs s t) 0
  have r1 := scl_range 0 s (by omega)
  have r2 := scl_range 0 t (by omega)
  rw [WSpec, e_tno]
  refine .inr ⟨by rw [e_fnd]; decide, .inl ⟨?_, rfl, rfl⟩⟩
  by_cases l1 : scl 0 s = -1
  · refine .inl ⟨0, 0, tc.start, ?_⟩
    rw [e_bod]
    refine .inr (.inl ?_)
    simp only [pevt, show ¬ ((3 : Int) = 1) by decide, show ¬ ((3 : Int) = 2) by decide, if_false, if_true]
    exact .inl (t_bad _ _ s 8 l1)
  · by_cases l2 : scl 0 t = -1
    · refine .inl ⟨0, 0, tc.start, ?_⟩
      rw [e_bod]
      refine .inr (.inl ?_)
      simp only [pevt, show ¬ ((3 : Int) = 1) by decide, show ¬ ((3 : Int) = 2) by decide, if_false, if_true]
      exact .inr ⟨trivial, t_bad _ _ t _ l2⟩
    · right
      have m1 : sem (eTs s t) (Es (eTs s t) 0) (bod (eTs s t) 0) (one 0) (scl 0 s).toNat := by
        rw [e_bod]
        simp only [sem, psem, show ¬ ((3 : Int) = 1) by decide, show ¬ ((3 : Int) = 2) by decide, if_false, if_true]
        exact .inl (t_sem _ _ s 8 l1)
      have m2 : sem (eTs s t) (Es (eTs s t) 0) (bod (eTs s t) 0) (one 0) (scl 0 t).toNat := by
        rw [e_bod]
        simp only [sem, psem, show ¬ ((3 : Int) = 1) by decide, show ¬ ((3 : Int) = 2) by decide, if_false, if_true]
        exact .inr (t_sem _ _ t _ l2)
      rcases h with h | h
      · exact ⟨(scl 0 s).toNat, by omega, tc.ends 0 0 _ tc.start m1⟩
      · exact ⟨(scl 0 t).toNat, by omega, tc.ends 0 0 _ tc.start m2⟩
/-- a text whose context is lost on the way -/
theorem txt_lost (l : List UInt8) : ∀ (st : Pst), st.err = 0 → ctxO st.out ≠ -1 → scl (ctxO st.out) l = -1 → st.out.size + l.length ≤ 2000 → (txtF true l st).err = 9 := by
  induction l with
  | nil => intro st he hn h _; exact absurd h hn
  | cons b r ih =>
    intro st he hn h ho
    simp only [List.length_cons] at ho
    simp only [txtF]
    rw [if_neg (by omega)]
    have hb : ctxO (st.out ++ byt b) = stp (ctxO st.out) b.toNat := ctxO_byt _ _
    by_cases hl : ctxO (st.out ++ byt b) = -1
    · rw [if_pos ⟨trivial, hl⟩]
    · rw [if_neg (by rintro ⟨_, q⟩; exact hl q)]
      exact ih { st with out := st.out ++ byt b } he hl (by show scl (ctxO (st.out ++ byt b)) r = -1; rw [hb]; exact h) (by show (st.out ++ byt b).size + _ ≤ _; rw [ByteArray.size_append, byt_size]; omega)
def cDat (v : List UInt8) : Dat := fldD [99] (mkB v) .nil
theorem t_page (ts : List Tm) (tr : Bool) (m : Nat) (l : List UInt8) (p : Nat) (R : List Dat) (k : Nat) (hl : l.length ≤ 150) (h : tr = true → scl 0 l ≠ -1) : pagF ts tr m ((tSr l).nds p) R ⟨⟨#[]⟩, k, 0⟩ = ⟨mkB l, k, 0⟩ := by
  rw [pagF_eq, t_nds]
  split
  · rename_i e; subst e; rfl
  · simp only [bdyF, if_true, ne_eq, not_true, if_false]
    have := (txt_err tr (mkB l).data.toList ⟨⟨#[]⟩, k, 0⟩ rfl (by rw [mkB_list]; exact h) (by simp [ByteArray.size])).1 (by rw [mkB_list]; simp [ByteArray.size]; omega)
    rw [this]
    simp only [mkB_list, empty_app]
theorem t_page_lost (ts : List Tm) (m : Nat) (l : List UInt8) (p : Nat) (R : List Dat) (k : Nat) (hl : l.length ≤ 150) (h : scl 0 l = -1) : (pagF ts true m ((tSr l).nds p) R ⟨⟨#[]⟩, k, 0⟩).err = 9 := by
  rw [pagF_eq, t_nds]
  split
  · rename_i e; subst e; cases h
  · simp only [bdyF, if_true, ne_eq, not_true, if_false]
    exact txt_lost _ ⟨⟨#[]⟩, k, 0⟩ rfl (by show (0 : Int) ≠ -1; decide) (by rw [mkB_list]; exact h) (by rw [mkB_list]; simp [ByteArray.size]; omega)
/-- the page of the choice: that of the text that is chosen -/
theorem e_page (s t v : List UInt8) (tr : Bool) : ∃ p, pagR (eTs s t) (mkB [97]) tr (cDat v) = pagF (eTs s t) tr 499 ((tSr (if 0 < v.length then s else t)).nds p) [cDat v] ⟨⟨#[]⟩, 1, 0⟩ := by
  have hl : lkp (mkB [99]) [cDat v] = some (mkB [99], false, mkB v, .nil) := by rw [lkp_one]; simp [cDat, fldD, Dat.fnd, nm_self]
  unfold pagR
  rw [e_tno, e_bod]
  rw [pagF_eq]
  simp only [bdyF, pst0, pceF, insF, hl, fldF, subF]
  by_cases hv : 0 < v.length
  · refine ⟨8, ?_⟩
    have hy : yesF false (mkB v) .nil = true := by simp [yesF, mkB_size, hv]
    simp [hy, hv]
  · refine ⟨8 + s.length + 3, ?_⟩
    have hy : yesF false (mkB v) .nil = false := by unfold yesF; rw [if_neg (by decide), mkB_size]; exact decide_eq_false hv
    simp [hy, hv]
/-- what Render answers, the context followed -/
theorem e_followed {s t v : List UInt8} {o : ByteArray} {x : Int} (hr : Reads (mkB (tmOut [97] (eSr s t))) (eTs s t)) (h1 : s.length ≤ 150) (h2 : t.length ≤ 150) (h : RenS (mkB (tmOut [97] (eSr s t))) (mkB [97]) 0 (cDat v) o x) :
    (scl 0 (if 0 < v.length then s else t) = 0 → x = 0 ∧ o = mkB (if 0 < v.length then s else t)) ∧ (scl 0 (if 0 < v.length then s else t) = -1 → x = 9 ∧ o = ⟨#[]⟩) ∧ (scl 0 (if 0 < v.length then s else t) ≠ 0 → scl 0 (if 0 < v.length then s else t) ≠ -1 → x = 11 ∧ o = ⟨#[]⟩) := by
  obtain ⟨A, a1, a2, a3, a4, a5⟩ := hr
  have key : ∀ o' x', endS true (pagR (eTs s t) (mkB [97]) true (cDat v)) o' x' → o = o' ∧ x = x' := fun o' x' he => renS_unique h (.inr ⟨_, A, a1, a2, a3, a4, a5, .inr (.inr (.inr ⟨by rw [e_fnd]; decide, .inl rfl, he⟩))⟩)
  obtain ⟨p, hp⟩ := e_page s t v true
  have hlen : (if 0 < v.length then s else t).length ≤ 150 := by split <;> assumption
  rw [hp] at key
  generalize (if 0 < v.length then s else t) = l at *
  have hct : ctxO (mkB l) = scl 0 l := by rw [ctxO_scl, mkB_list]
  refine ⟨fun q => ?_, fun q => ?_, fun q1 q2 => ?_⟩
  · have e := t_page (eTs s t) true 499 l p [cDat v] 1 hlen (fun _ => by rw [q]; decide)
    rw [e] at key
    have := key (mkB l) 0 (.inr (.inr ⟨rfl, fun _ => by show ctxO (mkB l) = 0; rw [hct, q], rfl, rfl⟩))
    exact ⟨this.2, this.1⟩
  · have e := t_page_lost (eTs s t) 499 l p [cDat v] 1 hlen q
    have := key ⟨#[]⟩ 9 (.inl ⟨by rw [e]; decide, e.symm, rfl⟩)
    exact ⟨this.2, this.1⟩
  · have e := t_page (eTs s t) true 499 l p [cDat v] 1 hlen (fun _ => q2)
    rw [e] at key
    have := key ⟨#[]⟩ 11 (.inr (.inl ⟨rfl, rfl, by show ctxO (mkB l) ≠ 0; rw [hct]; exact q1, rfl, rfl⟩))
    exact ⟨this.2, this.1⟩
/-- and not followed, where both texts end in Text -/
theorem e_fixed {s t v : List UInt8} {o : ByteArray} {x : Int} (hr : Reads (mkB (tmOut [97] (eSr s t))) (eTs s t)) (h1 : s.length ≤ 150) (h2 : t.length ≤ 150) (k1 : scl 0 s = 0) (k2 : scl 0 t = 0) (h : RenS (mkB (tmOut [97] (eSr s t))) (mkB [97]) 1 (cDat v) o x) :
    x = 0 ∧ o = mkB (if 0 < v.length then s else t) := by
  obtain ⟨A, a1, a2, a3, a4, a5⟩ := hr
  have hg := wspec_good (e_walk s t k1 k2)
  have key : ∀ o' x', endS false (pagR (eTs s t) (mkB [97]) false (cDat v)) o' x' → o = o' ∧ x = x' := fun o' x' he => renS_unique h (.inr ⟨_, A, a1, a2, a3, a4, a5, .inr (.inr (.inr ⟨by rw [e_fnd]; decide, .inr ⟨rfl, hg⟩, he⟩))⟩)
  obtain ⟨p, hp⟩ := e_page s t v false
  have hlen : (if 0 < v.length then s else t).length ≤ 150 := by split <;> assumption
  rw [hp] at key
  generalize (if 0 < v.length then s else t) = l at *
  have e := t_page (eTs s t) false 499 l p [cDat v] 1 hlen (fun q => by cases q)
  rw [e] at key
  have := key (mkB l) 0 (.inr (.inr ⟨rfl, (fun q => by cases q), rfl, rfl⟩))
  exact ⟨this.2, this.1⟩
end Go.Proofs.Ytffkejkgkgfnhaa
namespace Go.Proofs.Ytffkejkgkgfnhaa
open Go.RowKit
set_option linter.unusedVariables false
def nbr (u : UInt8) : Bool := !(u.toNat == 123) && !(u.toNat == 125)
/-- what bare keeps -/
def brF : List UInt8 → List UInt8 → List UInt8
  | [], o => o
  | u :: r, o => if 150 ≤ o.length then o else brF r (if nbr u = true then o ++ [u] else o)
theorem ext_one (t : ByteArray) (k : Nat) (h : k < t.size) : t.extract k (k + 1) = mkB [t[k]] := by
  apply ByteArray.ext
  apply Array.ext
  · simp [mkB]; omega
  · intro i h1 h2
    simp [mkB] at h1 h2 ⊢
    have : i = 0 := by omega
    subst this
    simp; rfl
theorem brF_at (s : ByteArray) (k : Nat) (h : k < s.size) (o : List UInt8) : brF (s.data.toList.drop k) o = if 150 ≤ o.length then o else brF (s.data.toList.drop (k + 1)) (if nbr s[k] = true then o ++ [s[k]] else o) := by
  rw [List.drop_eq_getElem_cons (by simpa using h)]; rfl
set_option maxRecDepth 100000 in
set_option maxHeartbeats 2000000 in
theorem q16 (w : World) (s : ByteArray) (hs : s.size ≤ maxLen) : Calls Try.prog 24 #[.string s] w fun e w' => e = .returned (.string (mkB (brF s.data.toList []))) ∧ Below w.heap.size w w' := by
  unfold maxLen at hs
  go_enter Try.func24, Try.ntmps24
  go_wp2
  go_loopw [3, 4] (fun ov iv wr => ∃ (k : Nat) (o : List UInt8), k ≤ s.size ∧ iv = .int .i64 k ∧ ov = .string (mkB o) ∧ o.length ≤ 150 ∧ Hid (brF s.data.toList [] = brF (s.data.toList.drop k) o) ∧ Hid (Below w.heap.size w wr)) (fun _ iv _ => s.size - (intOf iv).toNat)
  case atStart => exact ⟨0, [], Nat.zero_le _, rfl, rfl, by simp, rfl, Below.refl _ _⟩
  case round =>
    obtain ⟨k, o, hk, rfl, rfl, ho, HF, HB⟩ := hrel
    have hsz := mkB_size o
    by_cases hlt : k < s.size
    · have HS := hidS (brF_at s k hlt o)
      by_cases hfull : 150 ≤ o.length
      · have HE : Hid (brF s.data.toList [] = o) := by show _ = _; rw [HF.out, HS.out, if_pos hfull]
        generalize hM : mkB o = M at *
        have HM := hidS hM
        clear hM
        go_wp2
        go_ret
        exact ⟨by rw [HE.out, HM.out]; rfl, HB.out⟩
      · have hu := UInt8.toNat_lt s[k]
        have HX := hidS (ext_one s k hlt)
        have hsz1 : (mkB [s[k]]).size = 1 := rfl
        generalize hM : mkB o = M at *
        have HM := hidS hM
        clear hM
        by_cases hb : s[k].toNat = 123 ∨ s[k].toNat = 125
        · have HE : Hid (brF s.data.toList [] = brF (s.data.toList.drop (k + 1)) o) := by
            show _ = _
            rw [HF.out, HS.out, if_neg hfull, if_neg (by simp [nbr]; omega)]
          rcases hb with hb | hb
          · have b1 : ((s[k].toNat : Int) != 123) = false := by simp [hb]
            have b2 : (s[k].toNat : Int) = 123 := by omega
            clear hb
            go_wp2
            exact ⟨⟨k + 1, o, by omega, by go_num, by rw [HM.out], ho, HE.out, HB.out⟩, by simp [intOf]; omega⟩
          · have b1 : ((s[k].toNat : Int) != 123) = true := by simp [hb]
            have b2 : ((s[k].toNat : Int) != 125) = false := by simp [hb]
            have b3 : ¬ (s[k].toNat : Int) = 123 := by omega
            clear hb
            go_wp2
            exact ⟨⟨k + 1, o, by omega, by go_num, by rw [HM.out], ho, HE.out, HB.out⟩, by simp [intOf]; omega⟩
        · have HE : Hid (brF s.data.toList [] = brF (s.data.toList.drop (k + 1)) (o ++ [s[k]])) := by
            show _ = _
            rw [HF.out, HS.out, if_neg hfull, if_pos (by simp [nbr]; omega)]
          have b1 : ((s[k].toNat : Int) != 123) = true := by simp; omega
          have b2 : ((s[k].toNat : Int) != 125) = true := by simp; omega
          have b3 : ¬ (s[k].toNat : Int) = 123 := by omega
          clear hb
          go_wp2
          exact ⟨⟨k + 1, o ++ [s[k]], by omega, by go_num, by rw [HX.out, ← HM.out, mkB_app], by simp; omega, HE.out, HB.out⟩, by simp [intOf]; omega⟩
    · have HE : Hid (brF s.data.toList [] = o) := by
        show _ = _
        rw [HF.out, List.drop_eq_nil_of_le (by simp; omega)]; rfl
      generalize hM : mkB o = M at *
      have HM := hidS hM
      clear hM
      go_wp2
      go_ret
      exact ⟨by rw [HE.out, HM.out]; rfl, HB.out⟩
theorem brF_ok : ∀ (l o : List UInt8), bareL o → o.length ≤ 150 → bareL (brF l o) ∧ (brF l o).length ≤ 150
  | [], o, h1, h2 => ⟨h1, h2⟩
  | u :: r, o, h1, h2 => by
    simp only [brF]
    split
    · exact ⟨h1, h2⟩
    · split
      · rename_i hn hu
        refine brF_ok r _ (fun v hv => ?_) (by simp; omega)
        rcases List.mem_append.1 hv with q | q
        · exact h1 v q
        · simp at q; subst q
          simp [nbr] at hu
          exact hu
      · exact brF_ok r o h1 h2
set_option maxRecDepth 100000 in
set_option maxHeartbeats 2000000 in
theorem q20 (hR : PROK 16) (w : World) (src : ByteArray) (l : List UInt8) (da : Option Addr) (d : Dat) (dc : Nat) (hs : src.size ≤ maxLen) (hll : l.length ≤ 150) (hV : DatV w w.heap.size da d) (hok : d.ok false) (hbk : d.bulk ≤ 1048576) (hlc : d.len ≤ dc) (hdc : dc ≤ maxLen)
    (h : ∀ o x, RenS src (mkB [97]) 0 d o x → (scl 0 l = 0 → x = 0 ∧ o = mkB l) ∧ (scl 0 l = -1 → x = 9 ∧ o = ⟨#[]⟩) ∧ (scl 0 l ≠ 0 → scl 0 l ≠ -1 → x = 11 ∧ o = ⟨#[]⟩)) :
    Calls Try.prog 25 #[.string src, .agg #[.slice da d.len dc], .string (mkB l)] w fun e w' => e = .returned (.bool true) ∧ Below w.heap.size w w' := by
  have H0 := hidS (fun o => hR src (mkB [97]) 0 (w.alloc o) da d dc hs (DatV.mono hV (by simp) (fun q hq => Below.heap_alloc _ _ _ hq)) hok hbk hlc hdc)
  have H := hidS h
  have Hs := hidS (fun w' => c10 0 (mkB l) w' (by rw [mkB_size]; unfold maxLen; omega))
  rw [mkB_list, scn_in _ _ (by decide) (by decide)] at Hs
  clear h hV hok hbk hR
  generalize d.len = dl at *
  generalize scl 0 l = X at *
  generalize mkB l = M at *
  go_enter Try.func25, Try.ntmps25
  go_wp2_with fail
  refine (H0.out _).mono ?_
  rintro e w1 ⟨hb1, o1, x1, rfl, hr1⟩
  have HB1 : Hid (Below w.heap.size w w1) := ((Below.refl _ _).alloc (Nat.le_refl _) _).trans (hb1.mono (by simp))
  obtain ⟨a1, a2, a3⟩ := H.out o1 x1 hr1
  clear hb1 hr1 H0 H
  by_cases h0 : X = 0
  · subst h0
    obtain ⟨rfl, rfl⟩ := a1 rfl
    clear a1 a2 a3
    go_wp2_with (go_at_call 10; refine (Hs.out _).mono ?_; rintro e w' ⟨rfl, hw⟩; obtain rfl := hw.symm)
    go_ret
    exact ⟨rfl, HB1.out⟩
  · by_cases hl : X = -1
    · subst hl
      obtain ⟨rfl, rfl⟩ := a2 rfl
      clear a1 a2 a3
      go_wp2_with (go_at_call 10; refine (Hs.out _).mono ?_; rintro e w' ⟨rfl, hw⟩; obtain rfl := hw.symm)
      go_ret
      exact ⟨rfl, HB1.out⟩
    · obtain ⟨rfl, rfl⟩ := a3 h0 hl
      have m0 : (X == 0) = false := by simpa using h0
      have m1 : (X == -1) = false := by simpa using hl
      clear a1 a2 a3
      go_wp2_with (go_at_call 10; refine (Hs.out _).mono ?_; rintro e w' ⟨rfl, hw⟩; obtain rfl := hw.symm)
      go_ret
      exact ⟨rfl, HB1.out⟩
theorem e_src (s t : List UInt8) : (mkB [123, 43, 97, 125] ++ (⟨#[123, 63, 99, 125]⟩ ++ mkB s ++ ⟨#[123, 58, 125]⟩ ++ mkB t ++ ⟨#[123, 47, 125]⟩) ++ mkB [123, 45, 125] : ByteArray) = mkB (tmOut [97] (eSr s t)) := by
  have h1 : (⟨#[123, 63, 99, 125]⟩ : ByteArray) = mkB [123, 63, 99, 125] := rfl
  have h2 : (⟨#[123, 58, 125]⟩ : ByteArray) = mkB [123, 58, 125] := rfl
  have h3 : (⟨#[123, 47, 125]⟩ : ByteArray) = mkB [123, 47, 125] := rfl
  rw [h1, h2, h3]
  simp only [← mkB_app]
  congr 1
  simp [tmOut, eSr, Sr.out, t_out]
/-- one field, c, in memory -/
theorem c_dat {w2 w3 : World} (v : List UInt8) {ty : Nat} (hb3 : Below (w2.alloc (.cells #[.string ⟨#[99]⟩, .bool false, .string (mkB v), .slice none 0 0] ty)).heap.size (w2.alloc (.cells #[.string ⟨#[99]⟩, .bool false, .string (mkB v), .slice none 0 0] ty)) w3) : DatV w3 w3.heap.size (some ⟨w2.heap.size, 0, none⟩) (cDat v) := by
  have hz3 : w2.heap.size < w3.heap.size := by have := hb3.size; simp at this; omega
  have f0 : w3.cell? ⟨w2.heap.size, 0, none⟩ = some (.string ⟨#[99]⟩) := (hb3.cell (p := ⟨w2.heap.size, 0, none⟩) (by show w2.heap.size < _; simp)).trans (by simp)
  have f1 : w3.cell? ⟨w2.heap.size, 1, none⟩ = some (.bool false) := (hb3.cell (p := ⟨w2.heap.size, 1, none⟩) (by show w2.heap.size < _; simp)).trans (by simp)
  have f2 : w3.cell? ⟨w2.heap.size, 2, none⟩ = some (.string (mkB v)) := (hb3.cell (p := ⟨w2.heap.size, 2, none⟩) (by show w2.heap.size < _; simp)).trans (by simp)
  have f3 : w3.cell? ⟨w2.heap.size, 3, none⟩ = some (.slice none 0 0) := (hb3.cell (p := ⟨w2.heap.size, 3, none⟩) (by show w2.heap.size < _; simp)).trans (by simp)
  exact .inr ⟨w2.heap.size, 0, rfl, hz3, f0, f1, f2, ⟨none, 0, f3, Nat.le_refl _, Nat.zero_le _, .inl rfl⟩, trivial⟩
set_option maxRecDepth 100000 in
set_option maxHeartbeats 8000000 in
theorem q8 (hW : PWOK 15) (hR : PROK 16) (w : World) (x y : ByteArray) (hx : x.size ≤ maxLen) (hy : y.size ≤ maxLen) : Calls Try.prog 9 #[.string x, .string y] w fun e w' => e = .returned (.bool true) ∧ Below w.heap.size w w' := by
  have Hk := hidS (fun w' => q13 hW hR w')
  have Hbx := hidS (fun w' => q16 w' x hx)
  have Hby := hidS (fun w' => q16 w' y hy)
  obtain ⟨b1, l1⟩ := brF_ok x.data.toList [] (fun u hu => by cases hu) (by simp)
  obtain ⟨b2, l2⟩ := brF_ok y.data.toList [] (fun u hu => by cases hu) (by simp)
  generalize hs : brF x.data.toList [] = s at *
  generalize ht : brF y.data.toList [] = t at *
  clear hs ht hx hy
  have HRD := hidS (e_reads s t b1 b2 l1 l2)
  have Hp := hidS (fun w' (h : _) => q17 w' (⟨#[123, 63, 99, 125]⟩ ++ mkB s ++ ⟨#[123, 58, 125]⟩ ++ mkB t ++ ⟨#[123, 47, 125]⟩) h)
  rw [e_src] at Hp
  have hsS := mkB_size s
  have hsT := mkB_size t
  have hsz : (mkB (tmOut [97] (eSr s t))).size ≤ maxLen := by obtain ⟨A, _, q, _⟩ := HRD.out; unfold maxLen; omega
  have HSs := hidS (fun w' => c10 0 (mkB s) w' (by rw [mkB_size]; unfold maxLen; omega))
  have HSt := hidS (fun w' => c10 0 (mkB t) w' (by rw [mkB_size]; unfold maxLen; omega))
  rw [mkB_list, scn_in _ _ (by decide) (by decide)] at HSs HSt
  have HW := hidS (fun w' => hW (mkB (tmOut [97] (eSr s t))) (mkB [97]) w' hsz)
  have HR := hidS hR
  have HB1 := hidS b1
  have HB2 := hidS b2
  clear hW hR b1 b2
  go_enter Try.func9, Try.ntmps9
  go_wp2_with fail
  refine (Hk.out _).mono ?_
  rintro e w1 ⟨rfl, hb1⟩
  have HW1 := hidS hb1
  clear hb1 Hk
  go_wp2_with fail
  refine (Hbx.out _).mono ?_
  rintro e w2 ⟨rfl, hb2⟩
  have HW2 : Hid (Below w.heap.size w w2) := HW1.out.trans (hb2.mono HW1.out.size)
  clear hb2 Hbx HW1
  go_wp2_with fail
  refine (Hby.out _).mono ?_
  rintro e w3 ⟨rfl, hb3⟩
  have HW3 : Hid (Below w.heap.size w w3) := HW2.out.trans (hb3.mono HW2.out.size)
  clear hb3 Hby HW2
  generalize hMs : mkB s = Ms at *
  generalize hMt : mkB t = Mt at *
  have HMs := hidS hMs
  have HMt := hidS hMt
  clear hMs hMt
  go_wp2_with fail
  refine (Hp.out _ (by simp only [ByteArray.size_append]; have e1 : (⟨#[123, 63, 99, 125]⟩ : ByteArray).size = 4 := rfl
                       have e2 : (⟨#[123, 58, 125]⟩ : ByteArray).size = 3 := rfl
                       have e3 : (⟨#[123, 47, 125]⟩ : ByteArray).size = 3 := rfl
                       omega)).mono ?_
  rintro e w' ⟨rfl, hw⟩
  obtain rfl := hw.symm
  clear Hp
  have HRS := hidS (fun (v : List UInt8) (o : ByteArray) (x : Int) (h : RenS (mkB (tmOut [97] (eSr s t))) (mkB [97]) 0 (cDat v) o x) => e_followed HRD.out l1 l2 h)
  have HFX := hidS (fun (k1 : scl 0 s = 0) (k2 : scl 0 t = 0) (v : List UInt8) (o : ByteArray) (x : Int) (h : RenS (mkB (tmOut [97] (eSr s t))) (mkB [97]) 1 (cDat v) o x) => e_fixed HRD.out l1 l2 k1 k2 h)
  have HWL := hidS (fun (x : Int) (L : List (Nat × Nat)) (h : PWalk (mkB (tmOut [97] (eSr s t))) (mkB [97]) x L) => (⟨fun k1 k2 => walk_law HRD.out (e_walk s t k1 k2) h, fun k => walk_law HRD.out (e_bad s t k) h⟩ : (scl 0 s = 0 → scl 0 t = 0 → x = 0 ∧ L = []) ∧ (scl 0 s ≠ 0 ∨ scl 0 t ≠ 0 → x = 6 ∧ L = [])))
  generalize hSr : mkB (tmOut [97] (eSr s t)) = Sr at *
  clear hSr HRD
  go_wp2_with (go_at_call 10; first | (refine (HSs.out _).mono ?_; rintro e w' ⟨rfl, hw⟩; obtain rfl := hw.symm) | (refine (HSt.out _).mono ?_; rintro e w' ⟨rfl, hw⟩; obtain rfl := hw.symm))
  refine (HW.out _).mono ?_
  rintro e w4 ⟨hb4, la, lc, xx, L, rfl, hown, hL, hPW⟩
  have HWk := hidS (HWL.out xx L hPW)
  have HW4 : Hid (Below w.heap.size w w4) := HW3.out.trans (hb4.mono HW3.out.size)
  clear hb4 hown hPW HW HWL HW3
  generalize hLl : L.length = Ll at *
  have HLl := hidS hLl
  clear hLl
  go_wp2_with fail
  refine (q19 _ _ _).mono ?_
  rintro e w5 ⟨rfl, hb5⟩
  have HW5 : Hid (Below w.heap.size w w5) := HW4.out.trans (hb5.mono HW4.out.size)
  clear hb5 HW4
  go_wp2_with fail
  refine (q18 _ _ _ _).mono ?_
  rintro e w6 ⟨rfl, hb6⟩
  have HV1 := hidS (c_dat [49] hb6)
  have HW6 : Hid (Below w.heap.size w w6) := (HW5.out.alloc HW5.out.size _).trans (hb6.mono (by simp; have := HW5.out.size; omega))
  have hz6 : w5.heap.size < w6.heap.size := by have := hb6.size; simp at this; omega
  clear hb6
  generalize w5.heap.size = g1 at *
  go_wp2_with fail
  refine (q19 _ _ _).mono ?_
  rintro e w7 ⟨rfl, hb7⟩
  have ky : w7.cell? ⟨w6.heap.size, 0, none⟩ = some (.slice (some ⟨g1, 0, none⟩) 1 1) := (hb7.cell (p := ⟨w6.heap.size, 0, none⟩) (by show w6.heap.size < _; simp)).trans (by simp)
  have HB67 : Hid (Below w6.heap.size w6 w7) := ((Below.refl _ _).alloc (Nat.le_refl _) _).trans (hb7.mono (by simp))
  have hz7 : w6.heap.size < w7.heap.size := by have := hb7.size; simp at this; omega
  clear hb7
  go_wp2_with fail
  refine (q18 _ _ _ _).mono ?_
  rintro e w8 ⟨rfl, hb8⟩
  have HV2 := hidS (c_dat [] hb8)
  have hz8 : w7.heap.size < w8.heap.size := by have := hb8.size; simp at this; omega
  have HB78 : Hid (Below w7.heap.size w7 w8) := ((Below.refl _ _).alloc (Nat.le_refl _) _).trans (hb8.mono (by simp))
  have ky8 := (HB78.out.cell (p := ⟨w6.heap.size, 0, none⟩) hz7).trans ky
  have HB68 : Hid (Below w6.heap.size w6 w8) := HB67.out.trans (HB78.out.mono (by omega))
  clear hb8 ky
  generalize w7.heap.size = g2 at *
  have hz68 : w6.heap.size < w8.heap.size := by omega
  have HYf := hidS (fun (w' : World) (hb : Below w6.heap.size w6 w') => q20 HR.out w' Sr s (some ⟨g1, 0, none⟩) (cDat [49]) 1 hsz l1 (DatV.mono HV1.out hb.size (fun q hq => hb.block q hq)) ⟨trivial, trivial⟩ (by decide) (by decide) (by decide) (fun o x h => by simpa using HRS.out [49] o x h))
  have HNf := hidS (fun (w' : World) (hb : Below w8.heap.size w8 w') => q20 HR.out w' Sr t (some ⟨g2, 0, none⟩) (cDat []) 1 hsz l2 (DatV.mono HV2.out hb.size (fun q hq => hb.block q hq)) ⟨trivial, trivial⟩ (by decide) (by decide) (by decide) (fun o x h => by simpa using HRS.out [] o x h))
  rw [HMs.out] at HYf
  rw [HMt.out] at HNf
  go_wp2_with fail
  refine (HYf.out _ (HB68.out.alloc (by omega) _)).mono ?_
  rintro e w9 ⟨rfl, hb9⟩
  have HB89 : Hid (Below w8.heap.size w8 w9) := ((Below.refl _ _).alloc (Nat.le_refl _) _).trans (hb9.mono (by simp))
  have hz9 : w8.heap.size < w9.heap.size := by have := hb9.size; simp at this; omega
  have kn9 : w9.cell? ⟨w8.heap.size, 0, none⟩ = some (.slice (some ⟨g2, 0, none⟩) 1 1) := (hb9.cell (p := ⟨w8.heap.size, 0, none⟩) (by show w8.heap.size < _; simp)).trans (by simp)
  have ky9 := (HB89.out.cell (p := ⟨w6.heap.size, 0, none⟩) hz68).trans ky8
  clear hb9 ky8
  go_wp2_with fail
  refine (HNf.out _ HB89.out).mono ?_
  rintro e w10 ⟨rfl, hb10⟩
  have HB8x : Hid (Below w8.heap.size w8 w10) := HB89.out.trans (hb10.mono (by omega))
  have ky10 := (hb10.cell (p := ⟨w6.heap.size, 0, none⟩) (by show w6.heap.size < _; omega)).trans ky9
  have kn10 := (hb10.cell (p := ⟨w8.heap.size, 0, none⟩) hz9).trans kn9
  have hzx : w8.heap.size < w10.heap.size := by have := hb10.size; omega
  have HWx : Hid (Below w.heap.size w w10) := HW6.out.trans ((HB68.out.trans (HB8x.out.mono (by omega))).mono HW6.out.size)
  clear hb10 ky9 kn9 HYf HNf
  by_cases hg : scl 0 s = 0 ∧ scl 0 t = 0
  · obtain ⟨g0s, g0t⟩ := hg
    obtain ⟨rfl, rfl⟩ := HWk.out.1 g0s g0t
    have hl0 : Ll = 0 := HLl.out.symm
    subst hl0
    have HYb := hidS (fun (w' : World) (hb : Below w6.heap.size w6 w') => q21 HR.out w' Sr (mkB s) (some ⟨g1, 0, none⟩) (cDat [49]) 1 hsz (DatV.mono HV1.out hb.size (fun q hq => hb.block q hq)) ⟨trivial, trivial⟩ (by decide) (by decide) (by decide) (by rw [mkB_size]; unfold maxLen; omega) (fun way o x hw h => ⟨fun _ => by
      rcases hw with rfl | rfl
      · exact (HRS.out [49] o x h).1 (by simpa using g0s)
      · exact HFX.out g0s g0t [49] o x h, fun q => by rw [mkB_size] at q; omega⟩))
    have HNb := hidS (fun (w' : World) (hb : Below w8.heap.size w8 w') => q21 HR.out w' Sr (mkB t) (some ⟨g2, 0, none⟩) (cDat []) 1 hsz (DatV.mono HV2.out hb.size (fun q hq => hb.block q hq)) ⟨trivial, trivial⟩ (by decide) (by decide) (by decide) (by rw [mkB_size]; unfold maxLen; omega) (fun way o x hw h => ⟨fun _ => by
      rcases hw with rfl | rfl
      · exact (HRS.out [] o x h).1 (by simpa using g0t)
      · exact HFX.out g0s g0t [] o x h, fun q => by rw [mkB_size] at q; omega⟩))
    rw [HMs.out] at HYb
    rw [HMt.out] at HNb
    clear HRS HFX HWk
    rw [g0s, g0t]
    clear g0s g0t
    go_wp2_with fail
    refine (HYb.out _ (HB68.out.trans (HB8x.out.mono (by omega)))).mono ?_
    rintro e w11 ⟨rfl, hb11⟩
    have kn11 := (hb11.cell (p := ⟨w8.heap.size, 0, none⟩) hzx).trans kn10
    have HB8y : Hid (Below w8.heap.size w8 w11) := HB8x.out.trans (hb11.mono (by omega))
    have HWy : Hid (Below w.heap.size w w11) := HWx.out.trans (hb11.mono HWx.out.size)
    clear hb11 ky10 kn10
    go_wp2_with fail
    refine (HNb.out _ HB8y.out).mono ?_
    rintro e w12 ⟨rfl, hb12⟩
    have HWz : Hid (Below w.heap.size w w12) := HWy.out.trans (hb12.mono HWy.out.size)
    clear hb12 kn11
    go_wp2
    go_ret
    exact ⟨rfl, HWz.out⟩
  · have hor : scl 0 s ≠ 0 ∨ scl 0 t ≠ 0 := by omega
    obtain ⟨rfl, rfl⟩ := HWk.out.2 hor
    clear HRS HFX HWk
    by_cases hs0 : scl 0 s = 0
    · have ht0 : scl 0 t ≠ 0 := by omega
      have m1 : (scl 0 t != 0) = true := by simpa using ht0
      rw [hs0]
      clear hs0 ht0 hor hg
      go_wp2
      go_ret
      exact ⟨rfl, HWx.out⟩
    · have m1 : (scl 0 s != 0) = true := by simpa using hs0
      clear hs0 hor hg
      go_wp2
      go_ret
      exact ⟨rfl, HWx.out⟩
end Go.Proofs.Ytffkejkgkgfnhaa
