import Derived.Test.YtponicaflcbbeaaStays
import Derived.Test.YtponicaflcbbeaaNumber
namespace Go.Proofs.Ytponicaflcbbeaa
open Go.RowKit
set_option linter.unusedVariables false
/-! ### Plain facts on places in a text -/
theorem idx_drop (T : ByteArray) (p k : Nat) (u : UInt8) (h : (T.data.toList.drop p)[k]? = some u) : ∃ hk : p + k < T.size, T[p + k]'hk = u := by
  rw [List.getElem?_drop] at h
  obtain ⟨hk, e⟩ := List.getElem?_eq_some_iff.1 h
  exact ⟨by simpa using hk, by rw [← e]; rfl⟩
theorem size_drop (T : ByteArray) (p : Nat) (Q Y : List UInt8) (hQ : 0 < Q.length) (h : T.data.toList.drop p = Q ++ Y) : p + Q.length ≤ T.size := by
  have := congrArg List.length h
  simp at this
  have e : T.data.size = T.size := rfl
  omega
theorem ext_drop (T : ByteArray) (p n : Nat) : (T.extract p (p + n)).toList = (T.data.toList.drop p).take n := by
  rw [Lib.extract_toList]; congr 1; omega
theorem mid_take (c : Int) (l : List UInt8) (j : Nat) (hj : j < l.length) : mid c (l.take (j + 1)) = mid c (l.take j) ++ pc c l[j].toNat := by
  rw [List.take_succ_eq_append_getElem hj, mid_snoc]
theorem mid_split (c : Int) (l : List UInt8) (j : Nat) (hj : j < l.length) : mid c l = mid c (l.take j) ++ (pc c l[j].toNat ++ mid c (l.drop (j + 1))) := by
  have e : l = l.take j ++ (l[j] :: l.drop (j + 1)) := by rw [List.getElem_cons_drop, List.take_append_drop]
  have e2 : ∀ a b, mid c (a ++ b) = mid c a ++ mid c b := by intro a b; simp [mid]
  have e3 : mid c (l[j] :: l.drop (j + 1)) = pc c l[j].toNat ++ mid c (l.drop (j + 1)) := by rw [mid, List.flatMap_cons]; rfl
  conv => lhs; rw [e, e2, e3]
theorem view (c : Int) (l : List UInt8) (T : ByteArray) (hT : T.data.toList = bts (mid c l)) (j : Nat) (hj : j < l.length) :
    T.data.toList.drop (mid c (l.take j)).length = bts (pc c l[j].toNat) ++ bts (mid c (l.drop (j + 1))) := by
  have e1 : (mid c (l.take j)).length = (bts (mid c (l.take j))).length := by simp [bts]
  rw [hT, mid_split c l j hj, bts_append, e1, List.drop_left, bts_append]
theorem pc_pos (c b : Int) : 0 < (pc c b).length := by
  unfold pc pV pL pQ pT; (repeat' split) <;> simp
theorem bts_len (l : List Int) : (bts l).length = l.length := by simp [bts]
theorem eb_yes (T : ByteArray) (p n : Nat) (nm : List UInt8) (h0 : p + n ≤ T.size) (h : (T.data.toList.drop p).take n = nm) : eb T p n nm = true := by
  unfold eb; rw [ext_drop, h]; simp [h0]
theorem eb_no (T : ByteArray) (p n : Nat) (nm : List UInt8) (h : (T.data.toList.drop p).take n ≠ nm) : eb T p n nm = false := by
  unfold eb; rw [ext_drop]; simp [h]
theorem ent60 (T : ByteArray) (p : Nat) (Y : List UInt8) (h : T.data.toList.drop p = bts [38, 108, 116, 59] ++ Y) : enF0 T p = (60, 4) := by
  have hs := size_drop T p (bts [38, 108, 116, 59]) Y (by decide) h
  rw [enF0, if_pos (eb_yes T p 4 _ (by simpa [bts] using hs) (by rw [h]; rfl))]
theorem ent62 (T : ByteArray) (p : Nat) (Y : List UInt8) (h : T.data.toList.drop p = bts [38, 103, 116, 59] ++ Y) : enF0 T p = (62, 4) := by
  have hs := size_drop T p (bts [38, 103, 116, 59]) Y (by decide) h
  rw [enF0, if_neg (by rw [eb_no T p 4 _ (by rw [h]; simp [bts])]; decide), enF1, if_pos (eb_yes T p 4 _ (by simpa [bts] using hs) (by rw [h]; rfl))]
theorem ent38 (T : ByteArray) (p : Nat) (Y : List UInt8) (h : T.data.toList.drop p = bts [38, 97, 109, 112, 59] ++ Y) : enF0 T p = (38, 5) := by
  have hs := size_drop T p (bts [38, 97, 109, 112, 59]) Y (by decide) h
  rw [enF0, if_neg (by rw [eb_no T p 4 _ (by rw [h]; simp [bts])]; decide), enF1, if_neg (by rw [eb_no T p 4 _ (by rw [h]; simp [bts])]; decide), enF2, if_pos (eb_yes T p 5 _ (by simpa [bts] using hs) (by rw [h]; rfl))]
theorem ent34 (T : ByteArray) (p : Nat) (Y : List UInt8) (h : T.data.toList.drop p = bts [38, 113, 117, 111, 116, 59] ++ Y) : enF0 T p = (34, 6) := by
  have hs := size_drop T p (bts [38, 113, 117, 111, 116, 59]) Y (by decide) h
  rw [enF0, if_neg (by rw [eb_no T p 4 _ (by rw [h]; simp [bts])]; decide), enF1, if_neg (by rw [eb_no T p 4 _ (by rw [h]; simp [bts])]; decide), enF2, if_neg (by rw [eb_no T p 5 _ (by rw [h]; simp [bts])]; decide), enF3, if_pos (eb_yes T p 6 _ (by simpa [bts] using hs) (by rw [h]; rfl))]
/-- the ways of a byte in Text and values -/
theorem text_ways (c b : Int) (hc : c = 0 ∨ c = 15 ∨ c = 16) (T : ByteArray) (p : Nat) (Y : List UInt8) (h : T.data.toList.drop p = bts (pc c b) ++ Y) :
    (pc c b = [b] ∧ b ≠ 38) ∨ ((pc c b).head? = some 38 ∧ enF0 T p = (b, ((pc c b).length : Int))) := by
  have key : (pc c b = [b] ∧ b ≠ 38) ∨ (pc c b = [38, 108, 116, 59] ∧ b = 60) ∨ (pc c b = [38, 103, 116, 59] ∧ b = 62) ∨ (pc c b = [38, 97, 109, 112, 59] ∧ b = 38) ∨ (pc c b = [38, 113, 117, 111, 116, 59] ∧ b = 34) := by
    rcases hc with rfl | rfl | rfl <;> simp only [pc, pV, pT] <;> grind
  rcases key with k | ⟨k, rfl⟩ | ⟨k, rfl⟩ | ⟨k, rfl⟩ | ⟨k, rfl⟩
  · exact .inl k
  all_goals right; rw [k] at h ⊢; refine ⟨rfl, ?_⟩
  · exact ent60 T p Y h
  · exact ent62 T p Y h
  · exact ent38 T p Y h
  · exact ent34 T p Y h
theorem of_byte (u : UInt8) : UInt8.ofNat (u.toNat : Int).toNat = u := by simp
theorem nums_one (u : UInt8) : strOfNums [(u.toNat : Int)] = ⟨#[u]⟩ := by simp [strOfNums]
theorem out_step (l : List UInt8) (j : Nat) (hj : j < l.length) : (⟨(l.take j).toArray⟩ : ByteArray) ++ ⟨#[l[j]]⟩ = ⟨(l.take (j + 1)).toArray⟩ := by
  apply ByteArray.ext
  simp
end Go.Proofs.Ytponicaflcbbeaa
