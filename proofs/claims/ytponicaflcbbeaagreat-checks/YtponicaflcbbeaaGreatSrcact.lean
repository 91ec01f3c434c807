import Derived.Test.YtponicaflcbbeaaGreatSrc
namespace Go.Proofs.YtponicaflcbbeaaGreat
set_option linter.unusedVariables false
def nmd (b : ByteArray) : Bool := decide (1 ≤ b.size ∧ b.size ≤ 8) && decide (skp b az 0 = b.size)
def txB (b : Int) : Bool := decide (b ≠ 123 ∧ b ≠ 125)
def nbB (b : Int) : Bool := decide (b ≠ 125)
theorem ext_size (s : ByteArray) (a b : Nat) (h : b ≤ s.size) : (s.extract a b).size = b - a := by
  have e : (s.extract a b).data.toList.length = (s.extract a b).size := rfl
  rw [← e, Lib.extract_data, List.length_take, List.length_drop]
  have e2 : s.data.toList.length = s.size := rfl
  omega
theorem gb_list (s : ByteArray) (k : Nat) (h : k < s.size) : s.data.toList[k]? = some (s[k]'h) := by
  have e2 : s.data.toList.length = s.size := rfl
  rw [List.getElem?_eq_getElem (by omega)]; rfl
theorem gb_ext (s : ByteArray) (a b k : Nat) (h : b ≤ s.size) (hk : k < b - a) : gb (s.extract a b) k = gb s (a + k) := by
  have h1 : k < (s.extract a b).size := by rw [ext_size s a b h]; exact hk
  have h2 : a + k < s.size := by omega
  rw [gb_in _ k h1, gb_in s (a + k) h2]
  have e1 := gb_list (s.extract a b) k h1
  have e2 := gb_list s (a + k) h2
  rw [Lib.extract_data, List.getElem?_take_of_lt hk, List.getElem?_drop, e2] at e1
  simp only [Option.some.injEq] at e1
  rw [e1]
theorem nmd_iff (b : ByteArray) : nmd b = true ↔ (1 ≤ b.size ∧ b.size ≤ 8) ∧ ∀ j, j < b.size → az (gb b j) = true := by
  simp only [nmd, Bool.and_eq_true, decide_eq_true_eq]
  constructor
  · rintro ⟨h1, h2⟩
    exact ⟨h1, fun j hj => (skp_all b az 0 j (Nat.zero_le _) (by omega)).2⟩
  · rintro ⟨h1, h2⟩
    exact ⟨h1, skp_eq b az 0 b.size (Nat.zero_le _) (fun j _ hj => ⟨hj, h2 j hj⟩) (fun h => by omega)⟩
theorem nmd_ext (s : ByteArray) (a b : Nat) (h : b ≤ s.size) : nmd (s.extract a b) = true ↔ (1 ≤ b - a ∧ b - a ≤ 8) ∧ ∀ j, a ≤ j → j < b → az (gb s j) = true := by
  rw [nmd_iff, ext_size s a b h]
  constructor
  · rintro ⟨h1, h2⟩
    refine ⟨h1, fun j h3 h4 => ?_⟩
    have := h2 (j - a) (by omega)
    rw [gb_ext s a b (j - a) h (by omega), show a + (j - a) = j by omega] at this
    exact this
  · rintro ⟨h1, h2⟩
    refine ⟨h1, fun j hj => ?_⟩
    rw [gb_ext s a b j h hj]
    exact h2 (a + j) (by omega) (by omega)
/-- the sign of a kind -/
def sg (k : Int) : Int := if k = 1 then 43 else if k = 2 then 45 else if k = 3 then 32 else if k = 4 then 63 else if k = 5 then 58 else if k = 6 then 42 else if k = 7 then 47 else if k = 8 then 62 else 0
def isMark (m : Int) : Prop := m = 63 ∨ m = 42 ∨ m = 62 ∨ m = 43
theorem sg_one (m : Int) (h : m = 58 ∨ m = 47 ∨ m = 45) : sg (kindO m) = m ∧ (kindO m = 5 ∨ kindO m = 7 ∨ kindO m = 2) := by
  rcases h with rfl | rfl | rfl <;> decide
theorem sg_mark (m : Int) (h : isMark m) : sg (kindO m) = m ∧ (kindO m = 1 ∨ kindO m = 4 ∨ kindO m = 6 ∨ kindO m = 8) := by
  rcases h with rfl | rfl | rfl | rfl <;> decide
theorem kindO_az (m : Int) (h : az m = true) : kindO m = 3 := by
  have h' := h
  simp only [az, decide_eq_true_eq] at h'
  unfold kindO
  rw [if_neg (by omega), if_neg (by omega), if_neg (by omega), if_neg (by omega), if_neg (by omega), if_neg (by omega), if_neg (by omega), if_pos h]
theorem kindO_cases (m : Int) (h : kindO m ≠ 0) : (az m = true ∧ kindO m = 3) ∨ isMark m ∨ (m = 58 ∨ m = 47 ∨ m = 45) := by
  by_cases ha : az m = true
  · exact .inl ⟨ha, kindO_az m ha⟩
  · right
    unfold kindO at h
    unfold isMark
    simp only [ha] at h
    grind
/-- the ref's way: q, the first brace that closes -/
def rq (s : ByteArray) (p : Nat) : Nat := skp s nbB (p + 1)
/-- ground facts for the ways of an action at p, where q is the first closing brace -/
theorem way_one (s : ByteArray) (p : Nat) (hp : gb s p = 123) (hq : rq s p < s.size) (h2 : rq s p = p + 2) (hm : gb s (p + 1) = 58 ∨ gb s (p + 1) = 47 ∨ gb s (p + 1) = 45) :
    act s p = ⟨kindO (gb s (p + 1)), ⟨#[]⟩, rq s p + 1⟩ ∧ sg (kindO (gb s (p + 1))) = gb s (p + 1) ∧ (act s p).kind ≠ 0 := by
  obtain ⟨hs, hk⟩ := sg_one _ hm
  have hb : gb s (rq s p) = 125 := by have := skp_at s nbB (p + 1) hq; simpa [nbB, rq] using this
  have hf : frm s p = p + 2 := by unfold frm; rw [if_neg (by omega)]
  have he : nend s p = p + 2 := by
    unfold nend; rw [hf]
    exact skp_stop s az (p + 2) (by omega) (by rw [← h2, hb]; decide)
  have hi : isAc s p = true := by
    simp only [isAc, Bool.and_eq_true, decide_eq_true_eq, he, hf]
    refine ⟨⟨⟨by omega, hp⟩, ?_⟩, by omega, by rw [← h2]; exact hb⟩
    rcases hk with e | e | e <;> simp [fitsK, e]
  refine ⟨?_, hs, ?_⟩
  · rw [act, if_pos hi, he, hf, h2]
    congr 1
    rw [Lib.extract_eq]; simp
  · rw [act, if_pos hi]; show kindO _ ≠ 0; omega
theorem way_hole (s : ByteArray) (p : Nat) (hp : gb s p = 123) (hq : rq s p < s.size) (hn : nmd (s.extract (p + 1) (rq s p)) = true) :
    act s p = ⟨3, s.extract (p + 1) (rq s p), rq s p + 1⟩ := by
  obtain ⟨h1, h2⟩ := (nmd_ext s (p + 1) (rq s p) (by omega)).1 hn
  have hb : gb s (rq s p) = 125 := by have := skp_at s nbB (p + 1) hq; simpa [nbB, rq] using this
  have hk := kindO_az _ (h2 (p + 1) (by omega) (by omega))
  have hf : frm s p = p + 1 := by unfold frm; rw [if_pos hk]
  have he : nend s p = rq s p := by
    unfold nend; rw [hf]
    exact skp_eq s az (p + 1) (rq s p) (by omega) (fun j a b => ⟨by omega, h2 j a b⟩) (fun _ => by rw [hb]; decide)
  have hi : isAc s p = true := by
    simp only [isAc, Bool.and_eq_true, decide_eq_true_eq, he, hf, hk]
    exact ⟨⟨⟨by omega, hp⟩, by simp [fitsK]; omega⟩, by omega, hb⟩
  rw [act, if_pos hi, he, hf, hk]
theorem way_mark (s : ByteArray) (p : Nat) (hp : gb s p = 123) (hq : rq s p < s.size) (hm : isMark (gb s (p + 1))) (hn : nmd (s.extract (p + 2) (rq s p)) = true) :
    act s p = ⟨kindO (gb s (p + 1)), s.extract (p + 2) (rq s p), rq s p + 1⟩ ∧ sg (kindO (gb s (p + 1))) = gb s (p + 1) ∧ (act s p).kind ≠ 0 := by
  obtain ⟨hs, hk⟩ := sg_mark _ hm
  obtain ⟨h1, h2⟩ := (nmd_ext s (p + 2) (rq s p) (by omega)).1 hn
  have hb : gb s (rq s p) = 125 := by have := skp_at s nbB (p + 1) hq; simpa [nbB, rq] using this
  have hf : frm s p = p + 2 := by unfold frm; rw [if_neg (by omega)]
  have he : nend s p = rq s p := by
    unfold nend; rw [hf]
    exact skp_eq s az (p + 2) (rq s p) (by omega) (fun j a b => ⟨by omega, h2 j a b⟩) (fun _ => by rw [hb]; decide)
  have hi : isAc s p = true := by
    simp only [isAc, Bool.and_eq_true, decide_eq_true_eq, he, hf]
    refine ⟨⟨⟨by omega, hp⟩, ?_⟩, by omega, hb⟩
    rcases hk with e | e | e | e <;> simp [fitsK, e] <;> omega
  refine ⟨by rw [act, if_pos hi, he, hf], hs, ?_⟩
  rw [act, if_pos hi]; show kindO _ ≠ 0; omega
/-- where there is an action, the ref's way finds it -/
theorem way_back (s : ByteArray) (p : Nat) (h : (act s p).kind ≠ 0) :
    gb s p = 123 ∧ p + 1 < s.size ∧ rq s p < s.size ∧ p + 2 ≤ rq s p ∧
      ((rq s p = p + 2 ∧ (gb s (p + 1) = 58 ∨ gb s (p + 1) = 47 ∨ gb s (p + 1) = 45)) ∨ nmd (s.extract (p + 1) (rq s p)) = true ∨ (isMark (gb s (p + 1)) ∧ nmd (s.extract (p + 2) (rq s p)) = true)) := by
  have hi : isAc s p = true := by
    unfold act at h; split at h
    · assumption
    · simp [noAc] at h
  have hi' := hi
  simp only [isAc, Bool.and_eq_true, decide_eq_true_eq] at hi
  obtain ⟨⟨⟨h1, h2⟩, h3⟩, h4, h5⟩ := hi
  have hk : kindO (gb s (p + 1)) ≠ 0 := by intro e; rw [e] at h3; simp [fitsK] at h3
  have hge : frm s p ≤ nend s p := skp_ge s az (frm s p)
  have hall : ∀ j, frm s p ≤ j → j < nend s p → j < s.size ∧ az (gb s j) = true := skp_all s az (frm s p)
  have key : rq s p = nend s p ∧ p + 2 ≤ nend s p := by
    have hq : p + 1 ≤ nend s p ∧ (∀ j, p + 1 ≤ j → j < nend s p → gb s j ≠ 125) ∧ p + 2 ≤ nend s p := by
      by_cases e3 : kindO (gb s (p + 1)) = 3
      · have hf : frm s p = p + 1 := by unfold frm; rw [if_pos e3]
        rw [e3] at h3
        simp [fitsK] at h3
        refine ⟨by omega, fun j a b => ?_, by omega⟩
        have := (hall j (by omega) b).2
        simp [az] at this; omega
      · have hf : frm s p = p + 2 := by unfold frm; rw [if_neg e3]
        refine ⟨by omega, fun j a b => ?_, by omega⟩
        by_cases ej : j = p + 1
        · subst ej
          intro e
          rw [e] at hk
          exact hk (by decide)
        · have := (hall j (by omega) b).2
          simp [az] at this; omega
    refine ⟨?_, hq.2.2⟩
    exact skp_eq s nbB (p + 1) (nend s p) hq.1 (fun j a b => ⟨by omega, by simpa [nbB] using hq.2.1 j a b⟩) (fun _ => by rw [h5]; decide)
  obtain ⟨k1, k2⟩ := key
  rw [k1]
  refine ⟨h2, h1, h4, k2, ?_⟩
  rcases kindO_cases _ hk with ⟨ha, e3⟩ | hm | hm
  · right; left
    have hf : frm s p = p + 1 := by unfold frm; rw [if_pos e3]
    rw [e3, hf] at h3
    simp [fitsK] at h3
    refine (nmd_ext s (p + 1) (nend s p) (by omega)).2 ⟨by omega, fun j a b => ?_⟩
    exact (hall j (by omega) b).2
  · right; right
    obtain ⟨_, hkk⟩ := sg_mark _ hm
    have hf : frm s p = p + 2 := by unfold frm; rw [if_neg (by omega)]
    refine ⟨hm, (nmd_ext s (p + 2) (nend s p) (by omega)).2 ⟨?_, fun j a b => (hall j (by omega) b).2⟩⟩
    rw [hf] at h3
    rcases hkk with e | e | e | e <;> rw [e] at h3 <;> simp [fitsK] at h3 <;> omega
  · left
    obtain ⟨_, hkk⟩ := sg_one _ hm
    have hf : frm s p = p + 2 := by unfold frm; rw [if_neg (by omega)]
    rw [hf] at h3
    refine ⟨?_, hm⟩
    rcases hkk with e | e | e <;> rw [e] at h3 <;> simp [fitsK] at h3 <;> omega
theorem ext_one (s : ByteArray) (a b : Nat) (x : UInt8) (h : b ≤ s.size) (ha : a < b) : ((s.extract a b).toList == [x]) = decide (b = a + 1 ∧ gb s a = (x.toNat : Int)) := by
  rw [Bool.eq_iff_iff, beq_iff_eq, decide_eq_true_eq, Lib.extract_toList]
  have e2 : s.data.toList.length = s.size := rfl
  have hl : ((s.data.toList.drop a).take (b - a)).length = b - a := by rw [List.length_take, List.length_drop]; omega
  have hh : ((s.data.toList.drop a).take (b - a))[0]? = some (s[a]'(by omega)) := by
    rw [List.getElem?_take_of_lt (by omega), List.getElem?_drop]; exact gb_list s a (by omega)
  have hg := gb_in s a (by omega)
  constructor
  · intro e
    rw [e] at hl hh
    simp at hl hh
    refine ⟨by omega, ?_⟩
    rw [hg, ← hh]
  · rintro ⟨h1, h2⟩
    rw [hg] at h2
    have h3 : (s[a]'(by omega)) = x := UInt8.toNat_inj.1 (by omega)
    rw [h3] at hh
    have h4 : ((s.data.toList.drop a).take (b - a)).length = 1 := by omega
    obtain ⟨y, hy⟩ := List.length_eq_one_iff.1 h4
    rw [hy] at hh ⊢
    simpa using hh
theorem ext_head (s : ByteArray) (a b : Nat) (h : b ≤ s.size) (ha : a < b) (hz : 0 < (s.extract a b).size) : (((s.extract a b)[0]'hz).toNat : Int) = gb s a := by
  rw [← gb_in _ 0 hz, gb_ext s a b 0 h (by omega)]; rfl
theorem ext_tail (s : ByteArray) (a b : Nat) (h : b ≤ s.size) (ha : a < b) : (s.extract a b).extract 1 (s.extract a b).size = s.extract (a + 1) b := by
  rw [ext_size s a b h]
  apply ByteArray.ext
  apply Array.ext'
  rw [Lib.extract_data, Lib.extract_data, Lib.extract_data, List.drop_take, List.drop_drop]
  rw [List.take_take]
  congr 1
  omega
end Go.Proofs.YtponicaflcbbeaaGreat
