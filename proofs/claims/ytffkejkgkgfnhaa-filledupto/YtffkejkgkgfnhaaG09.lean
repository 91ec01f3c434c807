import Derived.Test.YtffkejkgkgfnhaaG08
import Derived.Deep.AppendLies
namespace Go.Proofs.Ytffkejkgkgfnhaa
open Go.RowKit
set_option linter.unusedVariables false
theorem nmEq_refl (a : ByteArray) : nmEq a a = true := by simp [nmEq]
def names (A : List Ak) : List ByteArray := (A.filter fun a => decide (a.kind = 1)).map (·.name)
theorem names_append (A B : List Ak) : names (A ++ B) = names A ++ names B := by simp [names]
def seenB (seen : List ByteArray) (nm : ByteArray) : Bool := seen.any fun x => nmEq x nm
def twA : List ByteArray → List Ak → Int
  | _, [] => -1
  | seen, a :: r => if a.kind = 1 then (if seenB seen a.name then a.at' else twA (seen ++ [a.name]) r) else twA seen r
def twL : List ByteArray → List Tm → Int
  | _, [] => -1
  | seen, t :: r => if seenB seen t.name then t.at' else twL (seen ++ [t.name]) r
def orE (x y : Int) : Int := if 0 ≤ x then x else y
theorem orE_pos (x y : Int) (h : 0 ≤ x) : orE x y = x := by rw [orE, if_pos h]
theorem orE_neg (x y : Int) (h : ¬ 0 ≤ x) : orE x y = y := by rw [orE, if_neg h]
theorem orE_minus (y : Int) : orE (-1) y = y := orE_neg _ _ (by omega)
theorem orE_assoc (x y z : Int) : orE (orE x y) z = orE x (orE y z) := by
  by_cases h : 0 ≤ x
  · rw [orE_pos x y h, orE_pos x z h, orE_pos x _ h]
  · rw [orE_neg x y h, orE_neg x _ h]
theorem twA_yes (seen : List ByteArray) (a : Ak) (r : List Ak) (h1 : a.kind = 1) (h2 : seenB seen a.name = true) : twA seen (a :: r) = a.at' := by simp only [twA, h1, h2, if_true]
theorem twA_go (seen : List ByteArray) (a : Ak) (r : List Ak) (h1 : a.kind = 1) (h2 : seenB seen a.name = false) : twA seen (a :: r) = twA (seen ++ [a.name]) r := by simp only [twA, h1, h2, if_true, Bool.false_eq_true, if_false]
theorem twA_no (seen : List ByteArray) (a : Ak) (r : List Ak) (h1 : a.kind ≠ 1) : twA seen (a :: r) = twA seen r := by simp only [twA, h1, if_false]
theorem twA_append (seen : List ByteArray) (A B : List Ak) : twA seen (A ++ B) = orE (twA seen A) (twA (seen ++ names A) B) := by
  induction A generalizing seen with
  | nil => simp [twA, names, orE]
  | cons a r ih =>
    rw [List.cons_append]
    by_cases h1 : a.kind = 1
    · have hn : names (a :: r) = a.name :: names r := by simp [names, h1]
      cases h2 : seenB seen a.name
      · rw [twA_go _ _ _ h1 h2, twA_go _ _ _ h1 h2, ih, hn]; simp [List.append_assoc]
      · rw [twA_yes _ _ _ h1 h2, twA_yes _ _ _ h1 h2, orE_pos _ _ (by omega)]
    · have hn : names (a :: r) = names r := by simp [names, h1]
      rw [twA_no _ _ _ h1, twA_no _ _ _ h1, ih, hn]
theorem twL_yes (seen : List ByteArray) (a : Tm) (r : List Tm) (h2 : seenB seen a.name = true) : twL seen (a :: r) = a.at' := by simp only [twL, h2, if_true]
theorem twL_go (seen : List ByteArray) (a : Tm) (r : List Tm) (h2 : seenB seen a.name = false) : twL seen (a :: r) = twL (seen ++ [a.name]) r := by simp only [twL, h2, Bool.false_eq_true, if_false]
theorem twL_append (seen : List ByteArray) (A B : List Tm) : twL seen (A ++ B) = orE (twL seen A) (twL (seen ++ A.map (·.name)) B) := by
  induction A generalizing seen with
  | nil => simp [twL, orE]
  | cons a r ih =>
    rw [List.cons_append]
    cases h2 : seenB seen a.name
    · rw [twL_go _ _ _ h2, twL_go _ _ _ h2, ih]; simp [List.append_assoc]
    · rw [twL_yes _ _ _ h2, twL_yes _ _ _ h2, orE_pos _ _ (by omega)]
theorem no_begin (A : List Ak) (h : ∀ a ∈ A, a.kind ≠ 1) : names A = [] ∧ ∀ seen, twA seen A = -1 := by
  induction A with
  | nil => exact ⟨rfl, fun _ => rfl⟩
  | cons a r ih =>
    have h1 := h a (by simp)
    obtain ⟨i1, i2⟩ := ih (fun b hb => h b (by simp [hb]))
    refine ⟨?_, fun seen => ?_⟩
    · have : names (a :: r) = names r := by simp [names, h1]
      rw [this, i1]
    · simp only [twA]; rw [if_neg h1]; exact i2 seen
theorem Flat.kinds {s : ByteArray} {d p e : Nat} {a : Nds} {A : List Ak} (h : Flat s d a p A e) : ∀ x ∈ A, x.kind ≠ 1 := by
  induction h with
  | nil d p => intro x hx; cases hx
  | text h _ ih => exact ih
  | hole h _ ih => 
    intro x hx
    rcases List.mem_cons.1 hx with rfl | hx
    · simp
    · exact ih x hx
  | call h _ ih => 
    intro x hx
    rcases List.mem_cons.1 hx with rfl | hx
    · simp
    · exact ih x hx
  | loop hd h k1 h1 _ ih1 ih =>
    intro x hx
    simp only [List.mem_cons, List.mem_append] at hx
    rcases hx with rfl | hx | rfl | hx
    · simp
    · exact ih1 x hx
    · simp
    · exact ih x hx
  | one hd h k1 h1 _ ih1 ih =>
    intro x hx
    simp only [List.mem_cons, List.mem_append] at hx
    rcases hx with rfl | hx | rfl | hx
    · simp
    · exact ih1 x hx
    · simp
    · exact ih x hx
  | two hd h k1 h1 k2 h2 _ ih1 ih2 ih =>
    intro x hx
    simp only [List.mem_cons, List.mem_append] at hx
    rcases hx with rfl | hx | rfl | hx | rfl | hx
    · simp
    · exact ih1 x hx
    · simp
    · exact ih2 x hx
    · simp
    · exact ih x hx
theorem TFlat.tw {s : ByteArray} {ts : List Tm} {A : List Ak} {p : Nat} (h : TFlat s ts A p) : twA [] A = twL [] ts ∧ names A = ts.map (·.name) := by
  induction h with
  | nil => exact ⟨rfl, rfl⟩
  | @snoc ts A B p e b h hl hk hb he ih =>
    obtain ⟨i1, i2⟩ := ih
    have hB := no_begin (B ++ [⟨2, (act s e).name, e⟩]) (by
      intro x hx
      rcases List.mem_append.1 hx with hx | hx
      · exact hb.kinds x hx
      · simp at hx; subst hx; simp)
    have hn : names (⟨1, (act s p).name, p⟩ :: (B ++ [⟨2, (act s e).name, e⟩])) = [(act s p).name] := by
      have : names (⟨1, (act s p).name, p⟩ :: (B ++ [⟨2, (act s e).name, e⟩])) = (act s p).name :: names (B ++ [⟨2, (act s e).name, e⟩]) := by simp [names]
      rw [this, hB.1]
    refine ⟨?_, by rw [names_append, hn, i2]; simp⟩
    rw [twA_append, twL_append, i1, i2]
    congr 1
    simp only [List.nil_append]
    cases h2 : seenB (ts.map (·.name)) (act s p).name
    · rw [twA_go _ _ _ rfl h2, twL_go _ _ _ h2, hB.2]; rfl
    · rw [twA_yes _ _ _ rfl h2, twL_yes _ _ _ h2]
theorem fndF_skip (nm : ByteArray) (pre rest : List Tm) (i : Nat) (h : (pre.any fun t => nmEq t.name nm) = false) : fndF nm (pre ++ rest) i = fndF nm rest (i + pre.length) := by
  induction pre generalizing i with
  | nil => simp
  | cons t r ih =>
    simp only [List.any_cons, Bool.or_eq_false_iff] at h
    simp only [List.cons_append, fndF]
    rw [if_neg (by rw [h.1]; decide), ih (i + 1) h.2]
    congr 1
    simp; omega
theorem fndF_hit (nm : ByteArray) (pre rest : List Tm) (i : Nat) (h : (pre.any fun t => nmEq t.name nm) = true) : 0 ≤ fndF nm (pre ++ rest) i ∧ fndF nm (pre ++ rest) i < i + pre.length := by
  induction pre generalizing i with
  | nil => simp at h
  | cons t r ih =>
    simp only [List.cons_append, fndF]
    by_cases h1 : nmEq t.name nm = true
    · rw [if_pos h1]; simp; omega
    · rw [if_neg h1]
      have h1' : nmEq t.name nm = false := by simpa using h1
      simp only [List.any_cons, h1', Bool.false_or] at h
      have := ih (i + 1) h
      simp; omega
theorem twF_twL (pre us : List Tm) : twF (pre ++ us) us pre.length = twL (pre.map (·.name)) us := by
  induction us generalizing pre with
  | nil => rfl
  | cons t r ih =>
    simp only [twF, twL]
    have hs : seenB (pre.map (·.name)) t.name = pre.any fun x => nmEq x.name t.name := by simp [seenB, List.any_map, Function.comp_def]
    rw [hs]
    cases hb : pre.any fun x => nmEq x.name t.name
    · have h1 := fndF_skip t.name pre (t :: r) 0 hb
      have h2 : fndF t.name (pre ++ t :: r) 0 = pre.length := by rw [h1]; simp [fndF, nmEq_refl]
      rw [if_neg (by rw [h2]; omega), if_neg (by decide)]
      have := ih (pre ++ [t])
      simpa [List.append_assoc] using this
    · have h1 := (fndF_hit t.name pre (t :: r) 0 hb).2
      rw [if_pos (by omega), if_pos rfl]
theorem TFlat.twice {s : ByteArray} {ts : List Tm} {A : List Ak} {p : Nat} (h : TFlat s ts A p) : twF ts ts 0 = twA [] A := by
  rw [h.tw.1]; exact twF_twL [] ts
def unA (has : ByteArray → Bool) : List Ak → Int
  | [] => -1
  | a :: r => if a.kind = 8 ∧ has a.name = false then a.at' else unA has r
theorem unA_yes (has : ByteArray → Bool) (a : Ak) (r : List Ak) (h : a.kind = 8 ∧ has a.name = false) : unA has (a :: r) = a.at' := by simp only [unA]; rw [if_pos h]
theorem unA_no (has : ByteArray → Bool) (a : Ak) (r : List Ak) (h : ¬ (a.kind = 8 ∧ has a.name = false)) : unA has (a :: r) = unA has r := by simp only [unA]; rw [if_neg h]
theorem unA_append (has : ByteArray → Bool) (A B : List Ak) : unA has (A ++ B) = orE (unA has A) (unA has B) := by
  induction A with
  | nil => simp [unA, orE]
  | cons a r ih =>
    rw [List.cons_append]
    by_cases h : a.kind = 8 ∧ has a.name = false
    · rw [unA_yes _ _ _ h, unA_yes _ _ _ h, orE_pos _ _ (by omega)]
    · rw [unA_no _ _ _ h, unA_no _ _ _ h, ih]
def hasF (ts : List Tm) (nm : ByteArray) : Bool := decide (0 ≤ fndF nm ts 0)
theorem unk_cons (ts : List Tm) (k a : Int) (nm : ByteArray) (th el : Nds) (two : Bool) (r : Nds) (h : ¬ (k = 5 ∧ fndF nm ts 0 < 0)) : unk ts (.cons k a nm th el two r) = orE (unk ts th) (orE (unk ts el) (unk ts r)) := by
  simp only [unk, orE]; rw [if_neg h]
theorem unk_nil (ts : List Tm) : unk ts .nil = -1 := rfl
theorem k8 {k : Int} {p : Prop} (h : k ≠ 8) : ¬ (k = 8 ∧ p) := fun q => h q.1
theorem k5 {k : Int} {p : Prop} (h : k ≠ 5) : ¬ (k = 5 ∧ p) := fun q => h q.1
theorem unk_range (ts : List Tm) (s : ByteArray) {d p e : Nat} {a : Nds} {A : List Ak} (h : Flat s d a p A e) : unk ts a = unA (hasF ts) A := by
  induction h with
  | nil d p => rfl
  | text h _ ih => rw [unk_cons _ _ _ _ _ _ _ _ (k5 (by decide)), unk_nil, orE_minus, orE_minus, ih]
  | hole h _ ih => rw [unk_cons _ _ _ _ _ _ _ _ (k5 (by decide)), unk_nil, orE_minus, orE_minus, ih, unA_no _ _ _ (k8 (by simp))]
  | @call d p e r A h _ ih =>
    by_cases hf : fndF (act s p).name ts 0 < 0
    · rw [unA_yes (hasF ts) ⟨8, (act s p).name, p⟩ _ ⟨rfl, by simp [hasF]; omega⟩]
      simp only [unk]; rw [if_pos ⟨trivial, hf⟩]
    · rw [unk_cons _ _ _ _ _ _ _ _ (fun h => hf h.2), unk_nil, orE_minus, orE_minus, ih, unA_no _ _ _ (by rintro ⟨_, h⟩; simp [hasF] at h; omega)]
  | loop hd h k1 h1 _ ih1 ih =>
    rw [unk_cons _ _ _ _ _ _ _ _ (k5 (by decide)), unk_nil, orE_minus, ih1, ih, unA_no _ _ _ (k8 (by simp)), unA_append, unA_no _ _ _ (k8 (by simp))]
  | one hd h k1 h1 _ ih1 ih =>
    rw [unk_cons _ _ _ _ _ _ _ _ (k5 (by decide)), unk_nil, orE_minus, ih1, ih, unA_no _ _ _ (k8 (by simp)), unA_append, unA_no _ _ _ (k8 (by simp))]
  | two hd h k1 h1 k2 h2 _ ih1 ih2 ih =>
    rw [unk_cons _ _ _ _ _ _ _ _ (k5 (by decide)), ih1, ih2, ih, unA_no _ _ _ (k8 (by simp)), unA_append, unA_no _ _ _ (k8 (by simp)), unA_append, unA_no _ _ _ (k8 (by simp))]
theorem unF_cons (ts : List Tm) (t : Tm) (r : List Tm) : unF ts (t :: r) = orE (unk ts t.body) (unF ts r) := rfl
theorem unF_append (ts us vs : List Tm) : unF ts (us ++ vs) = orE (unF ts us) (unF ts vs) := by
  induction us with
  | nil => simp [unF, orE]
  | cons a r ih => rw [List.cons_append, unF_cons, unF_cons, ih, orE_assoc]
theorem TFlat.un {s : ByteArray} {us : List Tm} {A : List Ak} {p : Nat} (ts : List Tm) (h : TFlat s us A p) : unF ts us = unA (hasF ts) A := by
  induction h with
  | nil => rfl
  | @snoc us A B p e b h hl hk hb he ih =>
    rw [unF_append, ih, unA_append]
    congr 1
    rw [unA_no _ _ _ (k8 (by simp)), unA_append, unF_cons, unk_range ts s hb, unA_no _ _ _ (k8 (by simp))]
    rfl
theorem TFlat.has {s : ByteArray} {ts : List Tm} {A : List Ak} {p : Nat} (h : TFlat s ts A p) (nm : ByteArray) : hasF ts nm = seenB (names A) nm := by
  rw [h.tw.2]
  have hs : seenB (ts.map (·.name)) nm = ts.any fun x => nmEq x.name nm := by simp [seenB, List.any_map, Function.comp_def]
  rw [hs]
  cases hb : ts.any fun x => nmEq x.name nm
  · have := fndF_skip nm ts [] 0 hb
    simp [fndF] at this
    simp [hasF, this]
  · have := fndF_hit nm ts [] 0 hb
    simp at this
    simp [hasF]; omega
/-- what Check answers for the actions of a source -/
def ChkA (A : List Ak) (x y : Int) : Prop :=
  (0 ≤ twA [] A ∧ x = 3 ∧ y = twA [] A) ∨ (twA [] A = -1 ∧ 0 ≤ unA (seenB (names A)) A ∧ x = 4 ∧ y = unA (seenB (names A)) A) ∨ (twA [] A = -1 ∧ unA (seenB (names A)) A < 0 ∧ x = 0 ∧ y = 0)
def ChkS (s : ByteArray) (x y : Int) : Prop :=
  (400 < s.size ∧ x = 1 ∧ y = 0) ∨ (s.size ≤ 400 ∧ ((∃ wr : Nat, Ends s init (.err wr) ∧ x = 2 ∧ y = wr) ∨ (∃ A, Ends s init (.fin A) ∧ ChkA A x y)))
theorem chkA_unique {A : List Ak} {x y x' y' : Int} (h : ChkA A x y) (h' : ChkA A x' y') : x = x' ∧ y = y' := by
  unfold ChkA at *; omega
theorem chkS_unique {s : ByteArray} {x y x' y' : Int} (h : ChkS s x y) (h' : ChkS s x' y') : x = x' ∧ y = y' := by
  rcases h with ⟨h1, rfl, rfl⟩ | ⟨h1, ⟨wr, h2, rfl, rfl⟩ | ⟨A, h2, h3⟩⟩ <;> rcases h' with ⟨k1, rfl, rfl⟩ | ⟨k1, ⟨wr', k2, rfl, rfl⟩ | ⟨A', k2, k3⟩⟩
  · exact ⟨rfl, rfl⟩
  · omega
  · omega
  · omega
  · have := ends_unique h2 k2; cases this; exact ⟨rfl, rfl⟩
  · have := ends_unique h2 k2; cases this
  · omega
  · have := ends_unique h2 k2; cases this
  · have := ends_unique h2 k2; cases this; exact chkA_unique h3 k3
end Go.Proofs.Ytffkejkgkgfnhaa
namespace Go.Proofs.Ytffkejkgkgfnhaa
open Go.RowKit
set_option linter.unusedVariables false
theorem orE_lt {x y : Int} (h : orE x y < 0) : x < 0 ∧ y < 0 := by
  unfold orE at h; split at h <;> omega
theorem ext_le (s : ByteArray) (a b : Nat) : (s.extract a b).size ≤ s.size := by
  have e : (s.extract a b).data.toList.length = (s.extract a b).size := rfl
  have e2 : s.data.toList.length = s.size := rfl
  rw [← e, Lib.extract_data, List.length_take, List.length_drop]
  omega
theorem act_name_le (s : ByteArray) (p : Nat) : (act s p).name.size ≤ s.size := by
  unfold act; split
  · exact ext_le s _ _
  · show (noAc p).name.size ≤ _
    exact Nat.zero_le _
theorem wf_cons {ts : List Tm} {k : Int} {p : Nat} {nm : ByteArray} {th el r : Nds} {tw : Bool} (hk : k = 1 ∨ k = 2 ∨ k = 3 ∨ k = 4 ∨ k = 5) (hp : p ≤ 400) (hn : nm.size ≤ 400) (hu : unk ts (.cons k p nm th el tw r) < 0)
    (h1 : unk ts th < 0 → WfN ts th) (h2 : unk ts el < 0 → WfN ts el) (h3 : unk ts r < 0 → WfN ts r) : WfN ts (.cons k p nm th el tw r) := by
  by_cases hc : k = 5 ∧ fndF nm ts 0 < 0
  · simp only [unk] at hu; rw [if_pos hc] at hu; omega
  · rw [unk_cons _ _ _ _ _ _ _ _ hc] at hu
    obtain ⟨u1, u2⟩ := orE_lt hu
    obtain ⟨u2, u3⟩ := orE_lt u2
    refine ⟨hk, ⟨by omega, by omega⟩, hn, fun e => ?_, h1 u1, h2 u2, h3 u3⟩
    apply Decidable.byContradiction
    intro hf
    exact hc ⟨e, by omega⟩
theorem Flat.wf {s : ByteArray} {d p e : Nat} {b : Nds} {A : List Ak} (h : Flat s d b p A e) (ts : List Tm) (hs : s.size ≤ 400) : unk ts b < 0 → WfN ts b := by
  have nm := fun p => Nat.le_trans (act_name_le s p) hs
  induction h with
  | nil d p => intro _; trivial
  | @text d p e r A h k ih =>
    intro hu
    have hp := (skp_all s txB p p (Nat.le_refl _) h).1
    exact wf_cons (by omega) (by omega) (Nat.le_trans (ext_le s _ _) hs) hu (fun _ => trivial) (fun _ => trivial) ih
  | @hole d p e r A h k ih => intro hu; have := act_next s p (by omega); exact wf_cons (by omega) (by omega) (nm p) hu (fun _ => trivial) (fun _ => trivial) ih
  | @call d p e r A h k ih => intro hu; have := act_next s p (by omega); exact wf_cons (by omega) (by omega) (nm p) hu (fun _ => trivial) (fun _ => trivial) ih
  | @loop d p e e1 th r A1 A hd h k1 h1 k2 ih1 ih => intro hu; have := act_next s p (by omega); exact wf_cons (by omega) (by omega) (nm p) hu ih1 (fun _ => trivial) ih
  | @one d p e e1 th r A1 A hd h k1 h1 k2 ih1 ih => intro hu; have := act_next s p (by omega); exact wf_cons (by omega) (by omega) (nm p) hu ih1 (fun _ => trivial) ih
  | @two d p e e1 e2 th el r A1 A2 A hd h k1 h1 k2 h2 k3 ih1 ih2 ih => intro hu; have := act_next s p (by omega); exact wf_cons (by omega) (by omega) (nm p) hu ih1 ih2 ih
theorem unF_all (ts : List Tm) : ∀ us, unF ts us < 0 → ∀ t ∈ us, unk ts t.body < 0
  | [], _, t, ht => by cases ht
  | u :: r, h, t, ht => by
    rw [unF_cons] at h
    obtain ⟨h1, h2⟩ := orE_lt h
    rcases List.mem_cons.1 ht with rfl | ht
    · exact h1
    · exact unF_all ts r h2 t ht
theorem TFlat.flats {s : ByteArray} {ts : List Tm} {A : List Ak} {p : Nat} (h : TFlat s ts A p) : ∀ t ∈ ts, ∃ q B e, Flat s 0 t.body q B e ∧ e ≤ s.size := by
  induction h with
  | nil => intro t ht; cases ht
  | @snoc ts A B p e b h hl hk hb he ih =>
    intro t ht
    rcases List.mem_append.1 ht with ht | ht
    · exact ih t ht
    · simp at ht; subst ht
      have := act_next s e (by omega)
      exact ⟨_, _, _, hb, by omega⟩
theorem TFlat.wf {s : ByteArray} {ts : List Tm} {A : List Ak} {p : Nat} (h : TFlat s ts A p) (hs : s.size ≤ 400) (hu : unF ts ts < 0) : ∀ i (hi : i < ts.length), WfN ts ts[i].body ∧ ts[i].body.sz ≤ 1000 := by
  intro i hi
  have hm := List.getElem_mem hi
  obtain ⟨q, B, e, hf, he⟩ := h.flats _ hm
  exact ⟨hf.wf ts hs (unF_all ts ts hu _ hm), by have := hf.szle; omega⟩
def useC (L : List (Nat × Nat)) : List Value := L.flatMap fun p => [.int .i64 p.1, .int .i64 p.2]
def Srt : List (Nat × Nat) → Prop := List.Pairwise fun p q => p.1 * 24 + p.2 < q.1 * 24 + q.2
theorem srt_unique : ∀ (L M : List (Nat × Nat)), Srt L → Srt M → (∀ p ∈ L, p.2 < 24) → (∀ p ∈ M, p.2 < 24) → (∀ p, p ∈ L ↔ p ∈ M) → L = M
  | [], M, _, _, _, _, h => by
    cases M with
    | nil => rfl
    | cons q N => exact absurd ((h q).2 (by simp)) (by simp)
  | p :: L, [], _, _, _, _, h => absurd ((h p).1 (by simp)) (by simp)
  | p :: L, q :: M, hL, hM, h1, h2, h => by
    obtain ⟨a1, a2⟩ := List.pairwise_cons.1 hL
    obtain ⟨b1, b2⟩ := List.pairwise_cons.1 hM
    have e : p = q := by
      rcases List.mem_cons.1 ((h p).1 (by simp)) with e | e
      · exact e
      · rcases List.mem_cons.1 ((h q).2 (by simp)) with e' | e'
        · exact e'.symm
        · have := a1 q e'
          have := b1 p e
          omega
    subst e
    have hn : p ∉ L := fun hp => by have := a1 p hp; omega
    have hn' : p ∉ M := fun hp => by have := b1 p hp; omega
    rw [srt_unique L M a2 b2 (fun x hx => h1 x (by simp [hx])) (fun x hx => h2 x (by simp [hx])) (fun x => by
      have := h x
      simp only [List.mem_cons] at this
      constructor
      · intro hx
        rcases this.1 (.inr hx) with e | e
        · subst e; exact absurd hx hn
        · exact e
      · intro hx
        rcases this.2 (.inr hx) with e | e
        · subst e; exact absurd hx hn'
        · exact e)]
def UseList (ts : List Tm) (t0 : Nat) (L : List (Nat × Nat)) : Prop := Srt L ∧ ∀ p, p ∈ L ↔ p.2 < 24 ∧ Evs ts t0 (.use p.1 p.2)
theorem useList_unique {ts : List Tm} {t0 : Nat} {L M : List (Nat × Nat)} (h : UseList ts t0 L) (k : UseList ts t0 M) : L = M :=
  srt_unique L M h.1 k.1 (fun p hp => ((h.2 p).1 hp).1) (fun p hp => ((k.2 p).1 hp).1) (fun p => (h.2 p).trans (k.2 p).symm)
/-- what Walks answers for templates -/
def WSpec (ts : List Tm) (nm : ByteArray) (x : Int) (L : List (Nat × Nat)) : Prop :=
  (fndF nm ts 0 < 0 ∧ x = 4 ∧ L = []) ∨ (0 ≤ fndF nm ts 0 ∧ ((TBad ts (tno ts nm) ∧ x = 6 ∧ L = []) ∨ (¬ TBad ts (tno ts nm) ∧ x = 0 ∧ UseList ts (tno ts nm) L)))
theorem wspec_unique {ts : List Tm} {nm : ByteArray} {x y : Int} {L M : List (Nat × Nat)} (h : WSpec ts nm x L) (k : WSpec ts nm y M) : x = y ∧ L = M := by
  rcases h with ⟨h1, rfl, rfl⟩ | ⟨h1, ⟨h2, rfl, rfl⟩ | ⟨h2, rfl, h3⟩⟩ <;> rcases k with ⟨k1, rfl, rfl⟩ | ⟨k1, ⟨k2, rfl, rfl⟩ | ⟨k2, rfl, k3⟩⟩
  · exact ⟨rfl, rfl⟩
  · omega
  · omega
  · omega
  · exact ⟨rfl, rfl⟩
  · exact absurd h2 k2
  · omega
  · exact absurd k2 h2
  · exact ⟨rfl, useList_unique h3 k3⟩
end Go.Proofs.Ytffkejkgkgfnhaa
namespace Go.Proofs.Ytffkejkgkgfnhaa
open Go.RowKit
set_option linter.unusedVariables false
theorem infoUse : (Try.prog.info? 47).map (fun i => (i.zero, i.size, i.bytes)) = some (some (.agg #[.int .i64 0, .int .i64 0]), 2, 16) := by kernel_rfl
theorem use_cells (w : World) (a b : Int) : ∀ (j : Nat) (u : Value), [Value.int .i64 a, .int .i64 b][j]? = some u → (w.alloc (.cells #[.int .i64 a, .int .i64 b] 47)).cell? ((⟨w.heap.size, 0, none⟩ : Addr).add j) = some u := by
  intro j u hj
  match j, hj with
  | 0, hj => simp at hj; subst hj; simp [Addr.add]
  | 1, hj => simp at hj; subst hj; simp [Addr.add]
  | j + 2, hj => simp at hj
theorem use_one (a b : Int) : ∀ u ∈ [Value.int .i64 a, .int .i64 b], u.oneCell' = true := by
  intro u hu; simp at hu; rcases hu with rfl | rfl <;> rfl
theorem own_base {w : World} {B B' ty sz : Nat} {v : Value} {n : Nat} {xs : List Value} (h : w.ownsRow B ty sz v n xs) (hb : B' ≤ B) : w.ownsRow B' ty sz v n xs := by
  obtain ⟨h1, h2⟩ := h
  refine ⟨h1, ?_⟩
  rcases h2 with h2 | ⟨g, cap, cur, hv, hg, r⟩
  · exact .inl h2
  · exact .inr ⟨g, cap, cur, hv, by omega, r⟩
end Go.Proofs.Ytffkejkgkgfnhaa
namespace Go.Proofs.Ytffkejkgkgfnhaa
open Go.RowKit
set_option linter.unusedVariables false
structure Hd where
  a : Option Addr
  (n c : Nat)
  mrk : Nat
def holdsC (hs : List Hd) : List Value := hs.flatMap fun h => [.slice h.a h.n h.c, .int .i64 h.mrk]
/-- all of it reads as its owner wrote it -/
def HdAt (w : World) (h : Hd) : Prop := h.n = 0 ∨ ∃ g, h.a = some ⟨g, 0, none⟩ ∧ ∀ k, k < h.n → w.cell? ⟨g, k * 2, none⟩ = some (.int .i64 h.mrk) ∧ w.cell? ⟨g, k * 2 + 1, none⟩ = some (.int .i64 (-(h.mrk : Int)))
structure WdOK (w : World) (wb : Nat) (ha : Option Addr) (hc : Nat) (hs : List Hd) : Prop where
  c : w.cell? ⟨wb, 0, none⟩ = some (.slice ha hs.length hc)
  f : w.frozen? ⟨wb, 0, none⟩ = false
  own : w.ownsRow (wb + 1) 44 2 (.slice ha hs.length hc) hs.length (holdsC hs)
  lt : wb < w.heap.size
  all : ∀ h ∈ hs, HdAt w h
  far : ∀ h ∈ hs, ∀ g, (Value.slice h.a h.n h.c).ownBlock = some g → g ≠ wb ∧ some g ≠ (Value.slice ha hs.length hc).ownBlock ∧ g < w.heap.size
  mks : ∀ h ∈ hs, h.mrk < 2 ^ 50 ∧ h.n < 20000
end Go.Proofs.Ytffkejkgkgfnhaa
namespace Go.Proofs.Ytffkejkgkgfnhaa
open Go.RowKit
set_option linter.unusedVariables false
theorem own_keep {w w' : World} {B ty sz : Nat} {v : Value} {n : Nat} {xs : List Value} (h : w.ownsRow B ty sz v n xs) (ho : ∀ g, v.ownBlock = some g → w'.heap[g]? = w.heap[g]?) : w'.ownsRow B ty sz v n xs := by
  obtain ⟨h1, h2⟩ := h
  refine ⟨h1, ?_⟩
  rcases h2 with h2 | ⟨g, cap, cur, hv, hg, hh, r⟩
  · exact .inl h2
  · refine .inr ⟨g, cap, cur, hv, hg, ?_, r⟩
    rw [ho g (by rw [hv]; rfl)]; exact hh
theorem HdAt.cells {w w' : World} {h : Hd} (hk : HdAt w h) (hc : ∀ g k, (Value.slice h.a h.n h.c).ownBlock = some g → k < h.n * 2 → w'.cell? ⟨g, k, none⟩ = w.cell? ⟨g, k, none⟩) : HdAt w' h := by
  rcases hk with h0 | ⟨g, ha, hall⟩
  · exact .inl h0
  · refine .inr ⟨g, ha, fun k hk => ?_⟩
    have hb : (Value.slice h.a h.n h.c).ownBlock = some g := by rw [ha]; rfl
    obtain ⟨h1, h2⟩ := hall k hk
    exact ⟨(hc g (k * 2) hb (by omega)).trans h1, (hc g (k * 2 + 1) hb (by omega)).trans h2⟩
theorem WdOK.keep {w w' : World} {wb : Nat} {ha : Option Addr} {hc : Nat} {hs : List Hd} (h : WdOK w wb ha hc hs) (hsz : w.heap.size ≤ w'.heap.size) (hb : w'.heap[wb]? = w.heap[wb]?) (ho : ∀ g, (Value.slice ha hs.length hc).ownBlock = some g → w'.heap[g]? = w.heap[g]?) (hall : ∀ h ∈ hs, HdAt w' h) : WdOK w' wb ha hc hs :=
  ⟨(World.cell?_of_block hb).trans h.c, (World.frozen?_of_block hb).trans h.f, own_keep h.own ho, by have := h.lt; omega, hall, fun x hx g hg => ⟨(h.far x hx g hg).1, (h.far x hx g hg).2.1, by have := (h.far x hx g hg).2.2; omega⟩, h.mks⟩
theorem WdOK.below {w w' : World} {wb : Nat} {ha : Option Addr} {hc : Nat} {hs : List Hd} (h : WdOK w wb ha hc hs) (hb : Below w.heap.size w w') : WdOK w' wb ha hc hs :=
  h.keep hb.size (hb.block _ h.lt) (fun g hg => hb.block g (h.own.lt g hg).2) (fun x hx => (h.all x hx).cells (fun g k hg _ => hb.cell (p := ⟨g, k, none⟩) (h.far x hx g hg).2.2))
end Go.Proofs.Ytffkejkgkgfnhaa
