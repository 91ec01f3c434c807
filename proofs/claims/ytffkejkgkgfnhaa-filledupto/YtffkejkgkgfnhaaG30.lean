import Derived.Test.YtffkejkgkgfnhaaG10
import Derived.Test.YtffkejkgkgfnhaaG09
/-
  SOURCES, WRITTEN OUT: what is written is read back. No Go.
-/
namespace Go.Proofs.Ytffkejkgkgfnhaa
open Go.RowKit
set_option linter.unusedVariables false
/-- the bytes from a place on -/
def Pre (s : ByteArray) (p : Nat) (l : List UInt8) : Prop := ∃ r, s.data.toList.drop p = l ++ r
theorem Pre.left {s : ByteArray} {p : Nat} {a b : List UInt8} (h : Pre s p (a ++ b)) : Pre s p a := by
  obtain ⟨r, h⟩ := h
  exact ⟨b ++ r, by rw [h, List.append_assoc]⟩
theorem Pre.right {s : ByteArray} {p : Nat} {a b : List UInt8} (h : Pre s p (a ++ b)) : Pre s (p + a.length) b := by
  obtain ⟨r, h⟩ := h
  refine ⟨r, ?_⟩
  rw [← List.drop_drop, h, List.append_assoc, List.drop_left]
theorem Pre.gb {s : ByteArray} {p : Nat} {l : List UInt8} (h : Pre s p l) (j : Nat) (u : UInt8) (hj : l[j]? = some u) : p + j < s.size ∧ gb s (p + j) = (u.toNat : Int) := by
  obtain ⟨r, h⟩ := h
  have hl : j < l.length := by
    rcases Nat.lt_or_ge j l.length with q | q
    · exact q
    · rw [List.getElem?_eq_none q] at hj; cases hj
  have e : s.data.toList[p + j]? = some u := by
    rw [← List.getElem?_drop, h, List.getElem?_append_left hl]; exact hj
  have hs : p + j < s.size := by
    rcases Nat.lt_or_ge (p + j) s.data.toList.length with q | q
    · exact q
    · rw [List.getElem?_eq_none q] at e; cases e
  refine ⟨hs, ?_⟩
  rw [gb_in s _ hs]
  have e2 := gb_list s (p + j) hs
  rw [e] at e2
  simp only [Option.some.injEq] at e2
  rw [e2]
def mkB (l : List UInt8) : ByteArray := ⟨l.toArray⟩
theorem Pre.ext {s : ByteArray} {p : Nat} {l : List UInt8} (h : Pre s p l) : s.extract p (p + l.length) = mkB l := by
  obtain ⟨r, h⟩ := h
  apply ByteArray.ext
  apply Array.ext'
  rw [Lib.extract_data, h, show p + l.length - p = l.length by omega, List.take_left]
  simp [mkB]
theorem act_eq (s : ByteArray) (p f e : Nat) (k : Int) (h1 : p + 1 < s.size) (h2 : gb s p = 123) (h3 : kindO (gb s (p + 1)) = k) (hf : f = if k = 3 then p + 1 else p + 2) (hfe : f ≤ e) (h4 : ∀ j, f ≤ j → j < e → j < s.size ∧ az (gb s j) = true) (h5 : e < s.size) (h6 : gb s e = 125) (h7 : fitsK k (e - f) = true) :
    act s p = ⟨k, s.extract f e, e + 1⟩ := by
  have hfr : frm s p = f := by unfold frm; rw [h3, hf]
  have hne : nend s p = e := by
    unfold nend
    rw [hfr]
    exact skp_eq s az f e hfe h4 (fun _ => by rw [h6]; decide)
  have hi : isAc s p = true := by
    simp only [isAc, Bool.and_eq_true, decide_eq_true_eq]
    rw [hne, hfr, h3]
    exact ⟨⟨⟨h1, h2⟩, h7⟩, h5, h6⟩
  unfold act
  rw [if_pos hi, hne, hfr, h3]
def nmL (l : List UInt8) : Prop := (1 ≤ l.length ∧ l.length ≤ 8) ∧ ∀ u ∈ l, 97 ≤ u.toNat ∧ u.toNat ≤ 122
theorem nmL_az {l : List UInt8} (h : nmL l) {s : ByteArray} {p : Nat} (hp : Pre s p l) : ∀ j, p ≤ j → j < p + l.length → j < s.size ∧ az (gb s j) = true := by
  intro j h1 h2
  have hj : l[j - p]? = some l[j - p] := List.getElem?_eq_getElem (by omega)
  have := hp.gb (j - p) _ hj
  rw [show p + (j - p) = j by omega] at this
  refine ⟨this.1, ?_⟩
  rw [this.2]
  have := h.2 l[j - p] (List.getElem_mem _)
  simp [az]; omega
theorem act_hole {s : ByteArray} {p : Nat} {nm : List UInt8} (hn : nmL nm) (h : Pre s p ([123] ++ nm ++ [125])) : act s p = ⟨3, mkB nm, p + (nm.length + 2)⟩ := by
  have g0 := h.gb 0 123 (by simp)
  have hp1 : Pre s (p + 1) nm := h.left.right
  have hz := nmL_az hn hp1
  have g1 := hz (p + 1) (by omega) (by have := hn.1.1; omega)
  have ge := h.gb (nm.length + 1) 125 (by have q : ([123] ++ nm ++ [125] : List UInt8)[([123] ++ nm : List UInt8).length]? = some 125 := by simp
                                          rwa [show ([123] ++ nm : List UInt8).length = nm.length + 1 by simp] at q)
  have hk : kindO (gb s (p + 1)) = 3 := by
    have := g1.2
    simp only [az, decide_eq_true_eq] at this
    unfold kindO
    rw [if_neg (by omega), if_neg (by omega), if_neg (by omega), if_neg (by omega), if_neg (by omega), if_neg (by omega), if_neg (by omega), if_pos (by simp [az]; omega)]
  have := act_eq s p (p + 1) (p + 1 + nm.length) 3 g1.1 (by simpa using g0.2) hk rfl (by omega) hz (by rw [show p + 1 + nm.length = p + (nm.length + 1) by omega]; exact ge.1) (by rw [show p + 1 + nm.length = p + (nm.length + 1) by omega]; simpa using ge.2) (by have := hn.1; simp [fitsK]; omega)
  rw [this, hp1.ext, show p + 1 + nm.length + 1 = p + (nm.length + 2) by omega]
theorem act_sign {s : ByteArray} {p : Nat} {nm : List UInt8} (m : UInt8) (k : Int) (hk : kindO (m.toNat : Int) = k) (hk3 : k ≠ 3) (hn : nmL nm ∨ nm = []) (hf : fitsK k nm.length = true) (h : Pre s p ([123, m] ++ nm ++ [125])) : act s p = ⟨k, mkB nm, p + (nm.length + 3)⟩ := by
  have g0 := h.gb 0 123 (by simp)
  have g1 := h.gb 1 m (by simp)
  have hp2 : Pre s (p + 2) nm := h.left.right
  have hz : ∀ j, p + 2 ≤ j → j < p + 2 + nm.length → j < s.size ∧ az (gb s j) = true := by
    rcases hn with hn | rfl
    · exact nmL_az hn hp2
    · intro j h1 h2; simp at h2; omega
  have ge := h.gb (nm.length + 2) 125 (by have q : ([123, m] ++ nm ++ [125] : List UInt8)[([123, m] ++ nm : List UInt8).length]? = some 125 := by simp
                                          rwa [show ([123, m] ++ nm : List UInt8).length = nm.length + 2 by simp] at q)
  have := act_eq s p (p + 2) (p + 2 + nm.length) k g1.1 (by simpa using g0.2) (by rw [g1.2]; exact hk) (by rw [if_neg hk3]) (by omega) hz (by rw [show p + 2 + nm.length = p + (nm.length + 2) by omega]; exact ge.1) (by rw [show p + 2 + nm.length = p + (nm.length + 2) by omega]; simpa using ge.2) (by rw [show p + 2 + nm.length - (p + 2) = nm.length by omega]; exact hf)
  rw [this, hp2.ext, show p + 2 + nm.length + 1 = p + (nm.length + 3) by omega]
theorem fit_nm {nm : List UInt8} (h : nmL nm) (k : Int) (h0 : k ≠ 0) (h1 : ¬ (k = 2 ∨ k = 5 ∨ k = 7)) : fitsK k nm.length = true := by
  have := h.1
  simp only [fitsK]
  rw [if_neg h0, if_neg h1]
  simp; omega
inductive Sr where
  | nil
  | text (l : List UInt8) (r : Sr)
  | hole (nm : List UInt8) (r : Sr)
  | call (nm : List UInt8) (r : Sr)
  | loop (nm : List UInt8) (th r : Sr)
  | one (nm : List UInt8) (th r : Sr)
  | two (nm : List UInt8) (th el r : Sr)
def Sr.out : Sr → List UInt8
  | .nil => []
  | .text l r => l ++ r.out
  | .hole nm r => ([123] ++ nm ++ [125]) ++ r.out
  | .call nm r => ([123, 62] ++ nm ++ [125]) ++ r.out
  | .loop nm th r => ([123, 42] ++ nm ++ [125]) ++ (th.out ++ (([123, 47] ++ [] ++ [125]) ++ r.out))
  | .one nm th r => ([123, 63] ++ nm ++ [125]) ++ (th.out ++ (([123, 47] ++ [] ++ [125]) ++ r.out))
  | .two nm th el r => ([123, 63] ++ nm ++ [125]) ++ (th.out ++ (([123, 58] ++ [] ++ [125]) ++ (el.out ++ (([123, 47] ++ [] ++ [125]) ++ r.out))))
def Sr.isText : Sr → Bool
  | .text _ _ => true
  | _ => false
def txL (l : List UInt8) : Prop := l ≠ [] ∧ ∀ u ∈ l, u.toNat ≠ 123 ∧ u.toNat ≠ 125
def Sr.ok : Nat → Sr → Prop
  | _, .nil => True
  | d, .text l r => txL l ∧ r.isText = false ∧ r.ok d
  | d, .hole nm r => nmL nm ∧ r.ok d
  | d, .call nm r => nmL nm ∧ r.ok d
  | d, .loop nm th r => nmL nm ∧ d < 8 ∧ th.ok (d + 1) ∧ r.ok d
  | d, .one nm th r => nmL nm ∧ d < 8 ∧ th.ok (d + 1) ∧ r.ok d
  | d, .two nm th el r => nmL nm ∧ d < 8 ∧ th.ok (d + 1) ∧ el.ok (d + 1) ∧ r.ok d
def Sr.nds : Sr → Nat → Nds
  | .nil, _ => .nil
  | .text l r, p => .cons 1 p (mkB l) .nil .nil false (r.nds (p + l.length))
  | .hole nm r, p => .cons 2 p (mkB nm) .nil .nil false (r.nds (p + (nm.length + 2)))
  | .call nm r, p => .cons 5 p (mkB nm) .nil .nil false (r.nds (p + (nm.length + 3)))
  | .loop nm th r, p => .cons 4 p (mkB nm) (th.nds (p + (nm.length + 3))) .nil false (r.nds (p + (nm.length + 3) + th.out.length + 3))
  | .one nm th r, p => .cons 3 p (mkB nm) (th.nds (p + (nm.length + 3))) .nil false (r.nds (p + (nm.length + 3) + th.out.length + 3))
  | .two nm th el r, p => .cons 3 p (mkB nm) (th.nds (p + (nm.length + 3))) (el.nds (p + (nm.length + 3) + th.out.length + 3)) true (r.nds (p + (nm.length + 3) + th.out.length + 3 + el.out.length + 3))
/-- it begins with a brace -/
theorem Sr.brace : ∀ (r : Sr), r.isText = false → ∃ l, r.out ++ [123] = 123 :: l
  | .nil, _ => ⟨[], rfl⟩
  | .text _ _, h => by cases h
  | .hole nm r, _ => ⟨nm ++ [125] ++ r.out ++ [123], by simp [Sr.out]⟩
  | .call nm r, _ => ⟨62 :: nm ++ [125] ++ r.out ++ [123], by simp [Sr.out]⟩
  | .loop nm th r, _ => ⟨42 :: nm ++ [125] ++ (th.out ++ ([123, 47, 125] ++ r.out)) ++ [123], by simp [Sr.out]⟩
  | .one nm th r, _ => ⟨63 :: nm ++ [125] ++ (th.out ++ ([123, 47, 125] ++ r.out)) ++ [123], by simp [Sr.out]⟩
  | .two nm th el r, _ => ⟨63 :: nm ++ [125] ++ (th.out ++ ([123, 58, 125] ++ (el.out ++ ([123, 47, 125] ++ r.out)))) ++ [123], by simp [Sr.out]⟩
theorem act_end {s : ByteArray} {p : Nat} {l : List UInt8} (m : UInt8) (k : Int) (hk : kindO (m.toNat : Int) = k) (hk3 : k ≠ 3) (hf : fitsK k 0 = true) (h : Pre s p (([123, m] ++ [] ++ [125]) ++ l)) : (act s p).kind = k ∧ (act s p).next = p + 3 := by
  have := act_sign m k hk hk3 (nm := []) (.inr rfl) hf h.left
  rw [this]; exact ⟨rfl, rfl⟩
theorem Sr.flat (s : ByteArray) : ∀ (x : Sr) (d p : Nat), x.ok d → Pre s p (x.out ++ [123]) → ∃ A, Flat s d (x.nds p) p A (p + x.out.length)
  | .nil, d, p, _, _ => ⟨[], by simpa [Sr.nds, Sr.out] using Flat.nil d p⟩
  | .text l r, d, p, ho, h => by
    obtain ⟨htx, hnt, hor⟩ := ho
    have h1 : Pre s p (l ++ (r.out ++ [123])) := by simpa [Sr.out] using h
    have hr := h1.right
    obtain ⟨A, hA⟩ := Sr.flat s r d (p + l.length) hor hr
    obtain ⟨l', hl'⟩ := Sr.brace r hnt
    have hb : gb s (p + l.length) = 123 := by
      rw [hl'] at hr
      have := hr.gb 0 123 rfl
      simpa using this.2
    have hsk : skp s txB p = p + l.length := by
      refine skp_eq s txB p (p + l.length) (by omega) (fun j h1' h2' => ?_) (fun _ => by rw [hb]; decide)
      have := h1.left.gb (j - p) l[j - p] (List.getElem?_eq_getElem (by omega))
      rw [show p + (j - p) = j by omega] at this
      refine ⟨this.1, ?_⟩
      rw [this.2]
      have := htx.2 l[j - p] (List.getElem_mem _)
      simp [txB]; omega
    have hpos : 0 < l.length := List.length_pos_iff.2 htx.1
    refine ⟨A, ?_⟩
    have := Flat.text (s := s) (d := d) (p := p) (by omega) (by rw [hsk]; exact hA)
    rw [hsk, h1.left.ext] at this
    simpa [Sr.nds, Sr.out, Nat.add_assoc] using this
  | .hole nm r, d, p, ho, h => by
    obtain ⟨hn, hor⟩ := ho
    have h1 : Pre s p (([123] ++ nm ++ [125]) ++ (r.out ++ [123])) := by simpa [Sr.out] using h
    have ha := act_hole hn h1.left
    have hr : Pre s (p + (nm.length + 2)) (r.out ++ [123]) := by have := h1.right; simpa [Nat.add_comm, Nat.add_left_comm] using this
    obtain ⟨A, hA⟩ := Sr.flat s r d _ hor hr
    have := Flat.hole (s := s) (d := d) (p := p) (by rw [ha]) (by rw [ha]; exact hA)
    rw [ha] at this
    have e : p + (Sr.hole nm r).out.length = p + (nm.length + 2) + r.out.length := by simp [Sr.out]; omega
    rw [e]
    exact ⟨_, this⟩
  | .call nm r, d, p, ho, h => by
    obtain ⟨hn, hor⟩ := ho
    have h1 : Pre s p (([123, 62] ++ nm ++ [125]) ++ (r.out ++ [123])) := by simpa [Sr.out] using h
    have ha := act_sign 62 8 (by decide) (by decide) (.inl hn) (fit_nm hn 8 (by decide) (by decide)) h1.left
    have hr : Pre s (p + (nm.length + 3)) (r.out ++ [123]) := by have := h1.right; simpa [Nat.add_comm, Nat.add_left_comm] using this
    obtain ⟨A, hA⟩ := Sr.flat s r d _ hor hr
    have := Flat.call (s := s) (d := d) (p := p) (by rw [ha]) (by rw [ha]; exact hA)
    rw [ha] at this
    have e : p + (Sr.call nm r).out.length = p + (nm.length + 3) + r.out.length := by simp [Sr.out]; omega
    rw [e]
    exact ⟨_, this⟩
  | .loop nm th r, d, p, ho, h => by
    obtain ⟨hn, hd, hot, hor⟩ := ho
    have h1 : Pre s p (([123, 42] ++ nm ++ [125]) ++ (th.out ++ (([123, 47] ++ [] ++ [125]) ++ (r.out ++ [123])))) := by simpa [Sr.out] using h
    have ha := act_sign 42 6 (by decide) (by decide) (.inl hn) (fit_nm hn 6 (by decide) (by decide)) h1.left
    have h2 : Pre s (p + (nm.length + 3)) (th.out ++ (([123, 47] ++ [] ++ [125]) ++ (r.out ++ [123]))) := by have := h1.right; simpa [Nat.add_comm, Nat.add_left_comm] using this
    have h3 := h2.right
    have ht : Pre s (p + (nm.length + 3)) (th.out ++ [123]) := by
      obtain ⟨q, hq⟩ := h2
      exact ⟨[47, 125] ++ (r.out ++ [123]) ++ q, by rw [hq]; simp⟩
    obtain ⟨A1, hA1⟩ := Sr.flat s th (d + 1) _ hot ht
    obtain ⟨e1, e2⟩ := act_end 47 7 (by decide) (by decide) (by decide) h3
    have hr : Pre s (p + (nm.length + 3) + th.out.length + 3) (r.out ++ [123]) := by have := h3.right; simpa [Nat.add_assoc] using this
    obtain ⟨A, hA⟩ := Sr.flat s r d _ hor hr
    have := Flat.loop (s := s) (d := d) (p := p) hd (by rw [ha]) (by rw [ha]; exact hA1) e1 (by rw [e2]; exact hA)
    rw [ha] at this
    have e : p + (Sr.loop nm th r).out.length = p + (nm.length + 3) + th.out.length + 3 + r.out.length := by simp [Sr.out]; omega
    rw [e]
    exact ⟨_, this⟩
  | .one nm th r, d, p, ho, h => by
    obtain ⟨hn, hd, hot, hor⟩ := ho
    have h1 : Pre s p (([123, 63] ++ nm ++ [125]) ++ (th.out ++ (([123, 47] ++ [] ++ [125]) ++ (r.out ++ [123])))) := by simpa [Sr.out] using h
    have ha := act_sign 63 4 (by decide) (by decide) (.inl hn) (fit_nm hn 4 (by decide) (by decide)) h1.left
    have h2 : Pre s (p + (nm.length + 3)) (th.out ++ (([123, 47] ++ [] ++ [125]) ++ (r.out ++ [123]))) := by have := h1.right; simpa [Nat.add_comm, Nat.add_left_comm] using this
    have h3 := h2.right
    have ht : Pre s (p + (nm.length + 3)) (th.out ++ [123]) := by
      obtain ⟨q, hq⟩ := h2
      exact ⟨[47, 125] ++ (r.out ++ [123]) ++ q, by rw [hq]; simp⟩
    obtain ⟨A1, hA1⟩ := Sr.flat s th (d + 1) _ hot ht
    obtain ⟨e1, e2⟩ := act_end 47 7 (by decide) (by decide) (by decide) h3
    have hr : Pre s (p + (nm.length + 3) + th.out.length + 3) (r.out ++ [123]) := by have := h3.right; simpa [Nat.add_assoc] using this
    obtain ⟨A, hA⟩ := Sr.flat s r d _ hor hr
    have := Flat.one (s := s) (d := d) (p := p) hd (by rw [ha]) (by rw [ha]; exact hA1) e1 (by rw [e2]; exact hA)
    rw [ha] at this
    have e : p + (Sr.one nm th r).out.length = p + (nm.length + 3) + th.out.length + 3 + r.out.length := by simp [Sr.out]; omega
    rw [e]
    exact ⟨_, this⟩
  | .two nm th el r, d, p, ho, h => by
    obtain ⟨hn, hd, hot, hoe, hor⟩ := ho
    have h1 : Pre s p (([123, 63] ++ nm ++ [125]) ++ (th.out ++ (([123, 58] ++ [] ++ [125]) ++ (el.out ++ (([123, 47] ++ [] ++ [125]) ++ (r.out ++ [123])))))) := by simpa [Sr.out] using h
    have ha := act_sign 63 4 (by decide) (by decide) (.inl hn) (fit_nm hn 4 (by decide) (by decide)) h1.left
    have h2 : Pre s (p + (nm.length + 3)) (th.out ++ (([123, 58] ++ [] ++ [125]) ++ (el.out ++ (([123, 47] ++ [] ++ [125]) ++ (r.out ++ [123]))))) := by have := h1.right; simpa [Nat.add_comm, Nat.add_left_comm] using this
    have h3 := h2.right
    have ht : Pre s (p + (nm.length + 3)) (th.out ++ [123]) := by
      obtain ⟨q, hq⟩ := h2
      exact ⟨[58, 125] ++ (el.out ++ (([123, 47] ++ [] ++ [125]) ++ (r.out ++ [123]))) ++ q, by rw [hq]; simp⟩
    obtain ⟨A1, hA1⟩ := Sr.flat s th (d + 1) _ hot ht
    obtain ⟨e1, e2⟩ := act_end 58 5 (by decide) (by decide) (by decide) h3
    have h4 : Pre s (p + (nm.length + 3) + th.out.length + 3) (el.out ++ (([123, 47] ++ [] ++ [125]) ++ (r.out ++ [123]))) := by have := h3.right; simpa [Nat.add_assoc] using this
    have he : Pre s (p + (nm.length + 3) + th.out.length + 3) (el.out ++ [123]) := by
      obtain ⟨q, hq⟩ := h4
      exact ⟨[47, 125] ++ (r.out ++ [123]) ++ q, by rw [hq]; simp⟩
    obtain ⟨A2, hA2⟩ := Sr.flat s el (d + 1) _ hoe he
    have h5 := h4.right
    obtain ⟨f1, f2⟩ := act_end 47 7 (by decide) (by decide) (by decide) h5
    have hr : Pre s (p + (nm.length + 3) + th.out.length + 3 + el.out.length + 3) (r.out ++ [123]) := by have := h5.right; simpa [Nat.add_assoc] using this
    obtain ⟨A, hA⟩ := Sr.flat s r d _ hor hr
    have := Flat.two (s := s) (d := d) (p := p) hd (by rw [ha]) (by rw [ha]; exact hA1) e1 (by rw [e2]; exact hA2) f1 (by rw [f2]; exact hA)
    rw [ha] at this
    have e : p + (Sr.two nm th el r).out.length = p + (nm.length + 3) + th.out.length + 3 + el.out.length + 3 + r.out.length := by simp [Sr.out]; omega
    rw [e]
    exact ⟨_, this⟩
end Go.Proofs.Ytffkejkgkgfnhaa
/-
  WHOLE SOURCES, WRITTEN OUT. No Go.
-/
namespace Go.Proofs.Ytffkejkgkgfnhaa
open Go.RowKit
set_option linter.unusedVariables false
def tmOut (nm : List UInt8) (x : Sr) : List UInt8 := ([123, 43] ++ nm ++ [125]) ++ (x.out ++ ([123, 45] ++ [] ++ [125]))
def tmTm (nm : List UInt8) (x : Sr) (p : Nat) : Tm := ⟨mkB nm, p, x.nds (p + (nm.length + 3))⟩
theorem TFlat.more {s : ByteArray} {ts : List Tm} {A : List Ak} {p : Nat} (h : TFlat s ts A p) (hl : ts.length < 6) {nm : List UInt8} {x : Sr} {rest : List UInt8} (hn : nmL nm) (hx : x.ok 0) (hp : Pre s p (tmOut nm x ++ rest)) :
    ∃ A', TFlat s (ts ++ [tmTm nm x p]) A' (p + (tmOut nm x).length) := by
  have h1 : Pre s p (([123, 43] ++ nm ++ [125]) ++ (x.out ++ (([123, 45] ++ [] ++ [125]) ++ rest))) := by simpa [tmOut] using hp
  have ha := act_sign 43 1 (by decide) (by decide) (.inl hn) (fit_nm hn 1 (by decide) (by decide)) h1.left
  have h2 : Pre s (p + (nm.length + 3)) (x.out ++ (([123, 45] ++ [] ++ [125]) ++ rest)) := by have := h1.right; simpa [Nat.add_comm, Nat.add_left_comm] using this
  have h3 := h2.right
  have ht : Pre s (p + (nm.length + 3)) (x.out ++ [123]) := by
    obtain ⟨q, hq⟩ := h2
    exact ⟨[45, 125] ++ rest ++ q, by rw [hq]; simp⟩
  obtain ⟨B, hB⟩ := Sr.flat s x 0 _ hx ht
  obtain ⟨e1, e2⟩ := act_end 45 2 (by decide) (by decide) (by decide) h3
  have := TFlat.snoc h hl (by rw [ha]) (by rw [ha]; exact hB) e1
  rw [ha, e2] at this
  have e : p + (tmOut nm x).length = p + (nm.length + 3) + x.out.length + 3 := by simp [tmOut]; omega
  rw [e]
  exact ⟨_, this⟩
theorem pre_all (l : List UInt8) : Pre (mkB l) 0 l := ⟨[], by simp [mkB]⟩
theorem mkB_size (l : List UInt8) : (mkB l).size = l.length := by simp [mkB, ByteArray.size]
theorem mkB_list (l : List UInt8) : (mkB l).data.toList = l := by simp [mkB]
theorem nmEq_mkB (a b : List UInt8) : nmEq (mkB a) (mkB b) = (a == b) := by simp [nmEq, mkB]
/-- what a source reads as -/
def Reads (s : ByteArray) (ts : List Tm) : Prop := ∃ A, TFlat s ts A s.size ∧ s.size ≤ 400 ∧ Ends s init (.fin A) ∧ twA [] A = -1 ∧ unA (seenB (names A)) A < 0
theorem reads_of {s : ByteArray} {ts : List Tm} {A : List Ak} (h : TFlat s ts A s.size) (hs : s.size ≤ 400) (h0 : s.size ≠ 0) (ht : twF ts ts 0 = -1) (hu : unF ts ts < 0) : Reads s ts := by
  refine ⟨A, h, hs, tfin s ts A s.size h (by omega) h0, by rw [← h.twice]; exact ht, ?_⟩
  have e2 := h.un ts
  have e3 : hasF ts = seenB (names A) := funext h.has
  rw [e3] at e2
  rw [← e2]; exact hu
theorem reads_one {nm : List UInt8} {x : Sr} (hn : nmL nm) (hx : x.ok 0) (hs : (tmOut nm x).length ≤ 400) (hu : unk [tmTm nm x 0] (x.nds (nm.length + 3)) < 0) : Reads (mkB (tmOut nm x)) [tmTm nm x 0] := by
  have hp : Pre (mkB (tmOut nm x)) 0 (tmOut nm x ++ []) := by rw [List.append_nil]; exact pre_all _
  obtain ⟨A, hA⟩ := TFlat.nil.more (by simp) hn hx hp
  rw [Nat.zero_add, ← mkB_size] at hA
  refine reads_of hA (by rw [mkB_size]; exact hs) (by rw [mkB_size]; simp [tmOut]) ?_ ?_
  · have : fndF (mkB nm) [tmTm nm x 0] 0 = 0 := by simp [fndF, tmTm, nmEq_mkB]
    simp only [twF]
    rw [show (tmTm nm x 0).name = mkB nm from rfl, this]
    simp
  · simp only [unF]
    have e : (tmTm nm x 0).body = x.nds (nm.length + 3) := by simp [tmTm]
    rw [e, if_neg (by omega)]
    decide
end Go.Proofs.Ytffkejkgkgfnhaa
