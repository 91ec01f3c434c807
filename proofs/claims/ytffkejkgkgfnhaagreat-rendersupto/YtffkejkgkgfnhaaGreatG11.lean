import Derived.Test.YtffkejkgkgfnhaaGreatG10
namespace Go.Proofs.YtffkejkgkgfnhaaGreat
open Go.RowKit
set_option linter.unusedVariables false
theorem nmEq_refl (a : ByteArray) : nmEq a a = true := by simp [nmEq]
def names (A : List Ak) : List ByteArray := (A.filter fun a => decide (a.kind = 1)).map (·.name)
theorem names_append (A B : List Ak) : names (A ++ B) = names A ++ names B := by simp [names]
def seenB (seen : List ByteArray) (nm : ByteArray) : Bool := seen.any fun x => nmEq x nm
def twA : List ByteArray → List Ak → Int
  | _, [] => -1
  | seen, a :: r => if a.kind = 1 then (if seenB seen a.name then a.at' else twA (seen ++ [a.name]) r) else twA seen r
def twL : List ByteArray → List Tm → Int
  | _, [] => -1
  | seen, t :: r => if seenB seen t.name then t.at' else twL (seen ++ [t.name]) r
def orE (x y : Int) : Int := if 0 ≤ x then x else y
theorem orE_pos (x y : Int) (h : 0 ≤ x) : orE x y = x := by rw [orE, if_pos h]
theorem orE_neg (x y : Int) (h : ¬ 0 ≤ x) : orE x y = y := by rw [orE, if_neg h]
theorem orE_minus (y : Int) : orE (-1) y = y := orE_neg _ _ (by omega)
theorem orE_assoc (x y z : Int) : orE (orE x y) z = orE x (orE y z) := by
  by_cases h : 0 ≤ x
  · rw [orE_pos x y h, orE_pos x z h, orE_pos x _ h]
  · rw [orE_neg x y h, orE_neg x _ h]
theorem twA_yes (seen : List ByteArray) (a : Ak) (r : List Ak) (h1 : a.kind = 1) (h2 : seenB seen a.name = true) : twA seen (a :: r) = a.at' := by simp only [twA, h1, h2, if_true]
theorem twA_go (seen : List ByteArray) (a : Ak) (r : List Ak) (h1 : a.kind = 1) (h2 : seenB seen a.name = false) : twA seen (a :: r) = twA (seen ++ [a.name]) r := by simp only [twA, h1, h2, if_true, Bool.false_eq_true, if_false]
theorem twA_no (seen : List ByteArray) (a : Ak) (r : List Ak) (h1 : a.kind ≠ 1) : twA seen (a :: r) = twA seen r := by simp only [twA, h1, if_false]
theorem twA_append (seen : List ByteArray) (A B : List Ak) : twA seen (A ++ B) = orE (twA seen A) (twA (seen ++ names A) B) := by
  induction A generalizing seen with
  | nil => simp [twA, names, orE]
  | cons a r ih =>
    rw [List.cons_append]
    by_cases h1 : a.kind = 1
    · have hn : names (a :: r) = a.name :: names r := by simp [names, h1]
      cases h2 : seenB seen a.name
      · rw [twA_go _ _ _ h1 h2, twA_go _ _ _ h1 h2, ih, hn]; simp [List.append_assoc]
      · rw [twA_yes _ _ _ h1 h2, twA_yes _ _ _ h1 h2, orE_pos _ _ (by omega)]
    · have hn : names (a :: r) = names r := by simp [names, h1]
      rw [twA_no _ _ _ h1, twA_no _ _ _ h1, ih, hn]
theorem twL_yes (seen : List ByteArray) (a : Tm) (r : List Tm) (h2 : seenB seen a.name = true) : twL seen (a :: r) = a.at' := by simp only [twL, h2, if_true]
theorem twL_go (seen : List ByteArray) (a : Tm) (r : List Tm) (h2 : seenB seen a.name = false) : twL seen (a :: r) = twL (seen ++ [a.name]) r := by simp only [twL, h2, Bool.false_eq_true, if_false]
theorem twL_append (seen : List ByteArray) (A B : List Tm) : twL seen (A ++ B) = orE (twL seen A) (twL (seen ++ A.map (·.name)) B) := by
  induction A generalizing seen with
  | nil => simp [twL, orE]
  | cons a r ih =>
    rw [List.cons_append]
    cases h2 : seenB seen a.name
    · rw [twL_go _ _ _ h2, twL_go _ _ _ h2, ih]; simp [List.append_assoc]
    · rw [twL_yes _ _ _ h2, twL_yes _ _ _ h2, orE_pos _ _ (by omega)]
theorem no_begin (A : List Ak) (h : ∀ a ∈ A, a.kind ≠ 1) : names A = [] ∧ ∀ seen, twA seen A = -1 := by
  induction A with
  | nil => exact ⟨rfl, fun _ => rfl⟩
  | cons a r ih =>
    have h1 := h a (by simp)
    obtain ⟨i1, i2⟩ := ih (fun b hb => h b (by simp [hb]))
    refine ⟨?_, fun seen => ?_⟩
    · have : names (a :: r) = names r := by simp [names, h1]
      rw [this, i1]
    · simp only [twA]; rw [if_neg h1]; exact i2 seen
theorem Flat.kinds {s : ByteArray} {d p e : Nat} {a : Nds} {A : List Ak} (h : Flat s d a p A e) : ∀ x ∈ A, x.kind ≠ 1 := by
  induction h with
  | nil d p => intro x hx; cases hx
  | text h _ ih => exact ih
  | hole h _ ih => 
    intro x hx
    rcases List.mem_cons.1 hx with rfl | hx
    · simp
    · exact ih x hx
  | call h _ ih => 
    intro x hx
    rcases List.mem_cons.1 hx with rfl | hx
    · simp
    · exact ih x hx
  | loop hd h k1 h1 _ ih1 ih =>
    intro x hx
    simp only [List.mem_cons, List.mem_append] at hx
    rcases hx with rfl | hx | rfl | hx
    · simp
    · exact ih1 x hx
    · simp
    · exact ih x hx
  | one hd h k1 h1 _ ih1 ih =>
    intro x hx
    simp only [List.mem_cons, List.mem_append] at hx
    rcases hx with rfl | hx | rfl | hx
    · simp
    · exact ih1 x hx
    · simp
    · exact ih x hx
  | two hd h k1 h1 k2 h2 _ ih1 ih2 ih =>
    intro x hx
    simp only [List.mem_cons, List.mem_append] at hx
    rcases hx with rfl | hx | rfl | hx | rfl | hx
    · simp
    · exact ih1 x hx
    · simp
    · exact ih2 x hx
    · simp
    · exact ih x hx
theorem TFlat.tw {s : ByteArray} {ts : List Tm} {A : List Ak} {p : Nat} (h : TFlat s ts A p) : twA [] A = twL [] ts ∧ names A = ts.map (·.name) := by
  induction h with
  | nil => exact ⟨rfl, rfl⟩
  | @snoc ts A B p e b h hl hk hb he ih =>
    obtain ⟨i1, i2⟩ := ih
    have hB := no_begin (B ++ [⟨2, (act s e).name, e⟩]) (by
      intro x hx
      rcases List.mem_append.1 hx with hx | hx
      · exact hb.kinds x hx
      · simp at hx; subst hx; simp)
    have hn : names (⟨1, (act s p).name, p⟩ :: (B ++ [⟨2, (act s e).name, e⟩])) = [(act s p).name] := by
      have : names (⟨1, (act s p).name, p⟩ :: (B ++ [⟨2, (act s e).name, e⟩])) = (act s p).name :: names (B ++ [⟨2, (act s e).name, e⟩]) := by simp [names]
      rw [this, hB.1]
    refine ⟨?_, by rw [names_append, hn, i2]; simp⟩
    rw [twA_append, twL_append, i1, i2]
    congr 1
    simp only [List.nil_append]
    cases h2 : seenB (ts.map (·.name)) (act s p).name
    · rw [twA_go _ _ _ rfl h2, twL_go _ _ _ h2, hB.2]; rfl
    · rw [twA_yes _ _ _ rfl h2, twL_yes _ _ _ h2]
theorem fndF_skip (nm : ByteArray) (pre rest : List Tm) (i : Nat) (h : (pre.any fun t => nmEq t.name nm) = false) : fndF nm (pre ++ rest) i = fndF nm rest (i + pre.length) := by
  induction pre generalizing i with
  | nil => simp
  | cons t r ih =>
    simp only [List.any_cons, Bool.or_eq_false_iff] at h
    simp only [List.cons_append, fndF]
    rw [if_neg (by rw [h.1]; decide), ih (i + 1) h.2]
    congr 1
    simp; omega
theorem fndF_hit (nm : ByteArray) (pre rest : List Tm) (i : Nat) (h : (pre.any fun t => nmEq t.name nm) = true) : 0 ≤ fndF nm (pre ++ rest) i ∧ fndF nm (pre ++ rest) i < i + pre.length := by
  induction pre generalizing i with
  | nil => simp at h
  | cons t r ih =>
    simp only [List.cons_append, fndF]
    by_cases h1 : nmEq t.name nm = true
    · rw [if_pos h1]; simp; omega
    · rw [if_neg h1]
      have h1' : nmEq t.name nm = false := by simpa using h1
      simp only [List.any_cons, h1', Bool.false_or] at h
      have := ih (i + 1) h
      simp; omega
theorem twF_twL (pre us : List Tm) : twF (pre ++ us) us pre.length = twL (pre.map (·.name)) us := by
  induction us generalizing pre with
  | nil => rfl
  | cons t r ih =>
    simp only [twF, twL]
    have hs : seenB (pre.map (·.name)) t.name = pre.any fun x => nmEq x.name t.name := by simp [seenB, List.any_map, Function.comp_def]
    rw [hs]
    cases hb : pre.any fun x => nmEq x.name t.name
    · have h1 := fndF_skip t.name pre (t :: r) 0 hb
      have h2 : fndF t.name (pre ++ t :: r) 0 = pre.length := by rw [h1]; simp [fndF, nmEq_refl]
      rw [if_neg (by rw [h2]; omega), if_neg (by decide)]
      have := ih (pre ++ [t])
      simpa [List.append_assoc] using this
    · have h1 := (fndF_hit t.name pre (t :: r) 0 hb).2
      rw [if_pos (by omega), if_pos rfl]
theorem TFlat.twice {s : ByteArray} {ts : List Tm} {A : List Ak} {p : Nat} (h : TFlat s ts A p) : twF ts ts 0 = twA [] A := by
  rw [h.tw.1]; exact twF_twL [] ts
/-! ### Calls of names that no template has -/
def unA (has : ByteArray → Bool) : List Ak → Int
  | [] => -1
  | a :: r => if a.kind = 8 ∧ has a.name = false then a.at' else unA has r
theorem unA_yes (has : ByteArray → Bool) (a : Ak) (r : List Ak) (h : a.kind = 8 ∧ has a.name = false) : unA has (a :: r) = a.at' := by simp only [unA]; rw [if_pos h]
theorem unA_no (has : ByteArray → Bool) (a : Ak) (r : List Ak) (h : ¬ (a.kind = 8 ∧ has a.name = false)) : unA has (a :: r) = unA has r := by simp only [unA]; rw [if_neg h]
theorem unA_append (has : ByteArray → Bool) (A B : List Ak) : unA has (A ++ B) = orE (unA has A) (unA has B) := by
  induction A with
  | nil => simp [unA, orE]
  | cons a r ih =>
    rw [List.cons_append]
    by_cases h : a.kind = 8 ∧ has a.name = false
    · rw [unA_yes _ _ _ h, unA_yes _ _ _ h, orE_pos _ _ (by omega)]
    · rw [unA_no _ _ _ h, unA_no _ _ _ h, ih]
def hasF (ts : List Tm) (nm : ByteArray) : Bool := decide (0 ≤ fndF nm ts 0)
theorem unk_cons (ts : List Tm) (k a : Int) (nm : ByteArray) (th el : Nds) (two : Bool) (r : Nds) (h : ¬ (k = 5 ∧ fndF nm ts 0 < 0)) : unk ts (.cons k a nm th el two r) = orE (unk ts th) (orE (unk ts el) (unk ts r)) := by
  simp only [unk, orE]; rw [if_neg h]
theorem unk_nil (ts : List Tm) : unk ts .nil = -1 := rfl
theorem k8 {k : Int} {p : Prop} (h : k ≠ 8) : ¬ (k = 8 ∧ p) := fun q => h q.1
theorem k5 {k : Int} {p : Prop} (h : k ≠ 5) : ¬ (k = 5 ∧ p) := fun q => h q.1
theorem unk_range (ts : List Tm) (s : ByteArray) {d p e : Nat} {a : Nds} {A : List Ak} (h : Flat s d a p A e) : unk ts a = unA (hasF ts) A := by
  induction h with
  | nil d p => rfl
  | text h _ ih => rw [unk_cons _ _ _ _ _ _ _ _ (k5 (by decide)), unk_nil, orE_minus, orE_minus, ih]
  | hole h _ ih => rw [unk_cons _ _ _ _ _ _ _ _ (k5 (by decide)), unk_nil, orE_minus, orE_minus, ih, unA_no _ _ _ (k8 (by simp))]
  | @call d p e r A h _ ih =>
    by_cases hf : fndF (act s p).name ts 0 < 0
    · rw [unA_yes (hasF ts) ⟨8, (act s p).name, p⟩ _ ⟨rfl, by simp [hasF]; omega⟩]
      simp only [unk]; rw [if_pos ⟨trivial, hf⟩]
    · rw [unk_cons _ _ _ _ _ _ _ _ (fun h => hf h.2), unk_nil, orE_minus, orE_minus, ih, unA_no _ _ _ (by rintro ⟨_, h⟩; simp [hasF] at h; omega)]
  | loop hd h k1 h1 _ ih1 ih =>
    rw [unk_cons _ _ _ _ _ _ _ _ (k5 (by decide)), unk_nil, orE_minus, ih1, ih, unA_no _ _ _ (k8 (by simp)), unA_append, unA_no _ _ _ (k8 (by simp))]
  | one hd h k1 h1 _ ih1 ih =>
    rw [unk_cons _ _ _ _ _ _ _ _ (k5 (by decide)), unk_nil, orE_minus, ih1, ih, unA_no _ _ _ (k8 (by simp)), unA_append, unA_no _ _ _ (k8 (by simp))]
  | two hd h k1 h1 k2 h2 _ ih1 ih2 ih =>
    rw [unk_cons _ _ _ _ _ _ _ _ (k5 (by decide)), ih1, ih2, ih, unA_no _ _ _ (k8 (by simp)), unA_append, unA_no _ _ _ (k8 (by simp)), unA_append, unA_no _ _ _ (k8 (by simp))]
theorem unF_cons (ts : List Tm) (t : Tm) (r : List Tm) : unF ts (t :: r) = orE (unk ts t.body) (unF ts r) := rfl
theorem unF_append (ts us vs : List Tm) : unF ts (us ++ vs) = orE (unF ts us) (unF ts vs) := by
  induction us with
  | nil => simp [unF, orE]
  | cons a r ih => rw [List.cons_append, unF_cons, unF_cons, ih, orE_assoc]
theorem TFlat.un {s : ByteArray} {us : List Tm} {A : List Ak} {p : Nat} (ts : List Tm) (h : TFlat s us A p) : unF ts us = unA (hasF ts) A := by
  induction h with
  | nil => rfl
  | @snoc us A B p e b h hl hk hb he ih =>
    rw [unF_append, ih, unA_append]
    congr 1
    rw [unA_no _ _ _ (k8 (by simp)), unA_append, unF_cons, unk_range ts s hb, unA_no _ _ _ (k8 (by simp))]
    rfl
theorem TFlat.has {s : ByteArray} {ts : List Tm} {A : List Ak} {p : Nat} (h : TFlat s ts A p) (nm : ByteArray) : hasF ts nm = seenB (names A) nm := by
  rw [h.tw.2]
  have hs : seenB (ts.map (·.name)) nm = ts.any fun x => nmEq x.name nm := by simp [seenB, List.any_map, Function.comp_def]
  rw [hs]
  cases hb : ts.any fun x => nmEq x.name nm
  · have := fndF_skip nm ts [] 0 hb
    simp [fndF] at this
    simp [hasF, this]
  · have := fndF_hit nm ts [] 0 hb
    simp at this
    simp [hasF]; omega
/-- what Check answers for the actions of a source -/
def ChkA (A : List Ak) (x y : Int) : Prop :=
  (0 ≤ twA [] A ∧ x = 3 ∧ y = twA [] A) ∨ (twA [] A = -1 ∧ 0 ≤ unA (seenB (names A)) A ∧ x = 4 ∧ y = unA (seenB (names A)) A) ∨ (twA [] A = -1 ∧ unA (seenB (names A)) A < 0 ∧ x = 0 ∧ y = 0)
def ChkS (s : ByteArray) (x y : Int) : Prop :=
  (400 < s.size ∧ x = 1 ∧ y = 0) ∨ (s.size ≤ 400 ∧ ((∃ wr : Nat, Ends s init (.err wr) ∧ x = 2 ∧ y = wr) ∨ (∃ A, Ends s init (.fin A) ∧ ChkA A x y)))
theorem chkA_unique {A : List Ak} {x y x' y' : Int} (h : ChkA A x y) (h' : ChkA A x' y') : x = x' ∧ y = y' := by
  unfold ChkA at *; omega
theorem chkS_unique {s : ByteArray} {x y x' y' : Int} (h : ChkS s x y) (h' : ChkS s x' y') : x = x' ∧ y = y' := by
  rcases h with ⟨h1, rfl, rfl⟩ | ⟨h1, ⟨wr, h2, rfl, rfl⟩ | ⟨A, h2, h3⟩⟩ <;> rcases h' with ⟨k1, rfl, rfl⟩ | ⟨k1, ⟨wr', k2, rfl, rfl⟩ | ⟨A', k2, k3⟩⟩
  · exact ⟨rfl, rfl⟩
  · omega
  · omega
  · omega
  · have := ends_unique h2 k2; cases this; exact ⟨rfl, rfl⟩
  · have := ends_unique h2 k2; cases this
  · omega
  · have := ends_unique h2 k2; cases this
  · have := ends_unique h2 k2; cases this; exact chkA_unique h3 k3
theorem chk_of_read (s : ByteArray) (ts : List Tm) (A : List Ak) (a : Option Addr) (c : Nat) (e : Ending) (h : TFlat s ts A s.size) (k : ReadOut ts a c e) : ∃ v x y, e = .returned (.tuple #[v, .int .i64 x, .int .i64 y]) ∧ ChkA A x y := by
  have e1 := h.twice
  have e2 := h.un ts
  have e3 : hasF ts = seenB (names A) := funext h.has
  rw [e3] at e2
  unfold ReadOut at k
  rw [e1, e2] at k
  rcases k with ⟨k1, k2⟩ | ⟨k1, k2, k3⟩ | ⟨k1, k2, k3⟩
  · exact ⟨_, _, _, k2, .inl ⟨k1, rfl, rfl⟩⟩
  · exact ⟨_, _, _, k3, .inr (.inl ⟨k1, k2, rfl, rfl⟩)⟩
  · exact ⟨_, _, _, k3, .inr (.inr ⟨k1, k2, rfl, rfl⟩)⟩
end Go.Proofs.YtffkejkgkgfnhaaGreat
namespace Go.Proofs.YtffkejkgkgfnhaaGreat
open Go.RowKit
set_option linter.unusedVariables false
set_option maxHeartbeats 400000 in
theorem c106 (b : Int) (w : World) (h0 : 0 ≤ b) (h1 : b ≤ 255) : Calls Tryz.prog 124 #[.int .u8 b] w fun e w' => e = .returned (.bool (az b)) ∧ w' = w := by
  go_enter Tryz.func124, Tryz.ntmps124
  go_wp2
  all_goals go_ret
  all_goals refine ⟨retS_bool ?_, rfl⟩
  all_goals grind (splits := 40) [az]
set_option maxHeartbeats 400000 in
theorem c90 (b : Int) (w : World) (h0 : 0 ≤ b) (h1 : b ≤ 255) : Calls Tryz.prog 103 #[.int .u8 b] w fun e w' => e = .returned (.int .i64 (kindO b)) ∧ w' = w := by
  go_enter Tryz.func103, Tryz.ntmps103
  go_wp2_with (go_at_call 124; refine (c106 _ _ (by omega) (by omega)).mono ?_; rintro e w' ⟨rfl, rfl⟩)
  all_goals go_ret
  all_goals refine ⟨retS_int ?_, rfl⟩
  all_goals grind (splits := 40) [kindO]
theorem byS_le (u : UInt8) : (u.toNat : Int) ≤ 255 := by have := UInt8.toNat_lt u; omega
theorem byS_ge (u : UInt8) : (0 : Int) ≤ (u.toNat : Int) := by omega
set_option maxHeartbeats 1000000 in
theorem c91 (s : ByteArray) (p : Nat) (w : World) (hs : s.size ≤ 1000) (hp : p ≤ s.size) :
    Calls Tryz.prog 104 #[.string s, .int .i64 p] w fun e w' => e = .returned (.int .i64 (skp s az p)) ∧ w' = w := by
  go_enter Tryz.func104, Tryz.ntmps104
  go_wp2
  go_loop [5] (fun i => ∃ k : Nat, k ≤ s.size ∧ i = .int .i64 k ∧ Hid (skp s az p = skp s az k)) (fun i => s.size - (intOf i).toNat)
  case atStart => exact ⟨p, hp, rfl, rfl⟩
  case round =>
    obtain ⟨k, hk, rfl, H⟩ := hrel
    by_cases hlt : k < s.size
    · have hg := gb_in s k hlt
      cases ha : az (gb s k)
      · have HF := hidS (H.out.trans (skp_stop s az k hlt ha))
        rw [hg] at ha
        clear hg H
        go_wp2_with (go_at_call 124; refine (c106 _ _ (byS_ge _) (byS_le _)).mono ?_; rintro e w' ⟨rfl, rfl⟩)
        go_ret
        exact ⟨retS_int (by rw [HF.out]), rfl⟩
      · have HS := hidS (skp_go s az k hlt ha)
        rw [hg] at ha
        clear hg
        go_wp2_with (go_at_call 124; refine (c106 _ _ (byS_ge _) (byS_le _)).mono ?_; rintro e w' ⟨rfl, rfl⟩)
        go_round
        case rel => exact ⟨k + 1, by omega, by go_num, H.out.trans HS.out⟩
        case measure => simp [intOf]; omega
    · have HF : Hid (skp s az p = k) := H.out.trans (skp_end s az k hlt)
      go_wp2
      go_ret
      exact ⟨retS_int (by rw [HF.out]), rfl⟩
set_option maxHeartbeats 400000 in
theorem c92 (k : Int) (n : Int) (m : Nat) (w : World) (hn : n = m) : Calls Tryz.prog 105 #[.int .i64 k, .int .i64 n] w fun e w' => e = .returned (.bool (fitsK k m)) ∧ w' = w := by
  subst hn
  go_enter Tryz.func105, Tryz.ntmps105
  go_wp2
  all_goals go_ret
  all_goals refine ⟨retS_bool ?_, rfl⟩
  all_goals grind (splits := 40) [fitsK]
def agV (s : ByteArray) (p : Nat) : Array Value := if (act s p).kind = 0 then #[.int .i64 0, .string ⟨#[]⟩, .int .i64 0, .int .i64 0, .string ⟨#[]⟩] else #[.int .i64 (act s p).kind, .string (act s p).name, .int .i64 p, .int .i64 (act s p).next, .string ⟨#[]⟩]
theorem agV_no (s : ByteArray) (p : Nat) (h : (act s p).kind = 0) : agV s p = #[.int .i64 0, .string ⟨#[]⟩, .int .i64 0, .int .i64 0, .string ⟨#[]⟩] := by rw [agV, if_pos h]
set_option maxHeartbeats 1000000 in
theorem c80no (s : ByteArray) (p : Nat) (w : World) (hs : s.size ≤ 1000) (hp : p < s.size) (h : ¬ (p + 1 < s.size ∧ gb s p = 123)) :
    Calls Tryz.prog 81 #[.string s, .int .i64 p] w fun e w' => e = .returned (.agg (agV s p)) ∧ Below w.heap.size w w' := by
  have HA : Hid (agV s p = #[.int .i64 0, .string ⟨#[]⟩, .int .i64 0, .int .i64 0, .string ⟨#[]⟩]) := agV_no s p (by
    by_cases e : (act s p).kind = 0
    · exact e
    · have := act_next s p e; omega)
  have hg := gb_in s p hp
  by_cases h1 : p + 1 < s.size
  · have ht : ((s[p].toNat : Int) != 123) = true := by rw [← hg]; simp; omega
    clear h hg
    go_enter Tryz.func81, Tryz.ntmps81
    go_wp2
    refine bodyPost_ret (v := .agg #[.int .i64 0, .string ⟨#[]⟩, .int .i64 0, .int .i64 0, .string ⟨#[]⟩]) (by simp [results, Tryz.results81, go_sem]) rfl ⟨by rw [HA.out], ?_⟩
    exact (Below.refl _ _).alloc (Nat.le_refl _) _
  · clear h hg
    go_enter Tryz.func81, Tryz.ntmps81
    go_wp2
    refine bodyPost_ret (v := .agg #[.int .i64 0, .string ⟨#[]⟩, .int .i64 0, .int .i64 0, .string ⟨#[]⟩]) (by simp [results, Tryz.results81, go_sem]) rfl ⟨by rw [HA.out], ?_⟩
    exact (Below.refl _ _).alloc (Nat.le_refl _) _
set_option maxHeartbeats 2000000 in
theorem c80k3 (s : ByteArray) (p : Nat) (w : World) (hs : s.size ≤ 1000) (hp : p + 1 < s.size) (hb : gb s p = 123) (h3 : kindO (gb s (p + 1)) = 3) :
    Calls Tryz.prog 81 #[.string s, .int .i64 p] w fun e w' => e = .returned (.agg (agV s p)) ∧ Below w.heap.size w w' := by
  have hp0 : p < s.size := by omega
  have hg := gb_in s p hp0
  have ht : ((s[p].toNat : Int) != 123) = false := by rw [← hg, hb]; decide
  have hg1 := gb_in s (p + 1) hp
  have Hk : Hid (∀ w, Calls Tryz.prog 103 #[.int .u8 ((s[p + 1]'hp).toNat : Int)] w fun e w' => e = .returned (.int .i64 (kindO (gb s (p + 1)))) ∧ w' = w) := by
    intro w; rw [hg1]; exact c90 _ w (byS_ge _) (byS_le _)
  have hfm : frm s p = p + 1 := by unfold frm; rw [if_pos h3]
  have hf2 := frm_range s p hp
  have hge : frm s p ≤ nend s p := skp_ge s az (frm s p)
  have hle : nend s p ≤ s.size := skp_le s az (frm s p) hf2.2
  have Hl : Hid (∀ w, Calls Tryz.prog 104 #[.string s, .int .i64 ((p : Int) + 1)] w fun e w' => e = .returned (.int .i64 (nend s p)) ∧ w' = w) := by
    intro w
    have := c91 s (frm s p) w hs hf2.2
    have e : ((frm s p : Nat) : Int) = (p : Int) + 1 := by omega
    rw [e] at this
    exact this
  have Hn : Hid (∀ w, Calls Tryz.prog 105 #[.int .i64 (kindO (gb s (p + 1))), .int .i64 ((nend s p : Int) - ((p : Int) + 1))] w fun e w' => e = .returned (.bool (fitsK (kindO (gb s (p + 1))) (nend s p - frm s p))) ∧ w' = w) :=
    fun w => c92 _ _ _ w (by omega)
  have HK3 := hidS h3
  have HD : Hid (isAc s p = (fitsK (kindO (gb s (p + 1))) (nend s p - frm s p) && decide (nend s p < s.size ∧ gb s (nend s p) = 125))) := by
    show _ = _; unfold isAc; simp [hp, hb]
  have HV : Hid (isAc s p = true → agV s p = #[.int .i64 (kindO (gb s (p + 1))), .string (s.extract (frm s p) (nend s p)), .int .i64 p, .int .i64 (nend s p + 1), .string ⟨#[]⟩]) := by
    intro h
    have e : act s p = ⟨kindO (gb s (p + 1)), s.extract (frm s p) (nend s p), nend s p + 1⟩ := by rw [act, if_pos h]
    have ne : (act s p).kind ≠ 0 := by
      intro z
      rw [e] at z
      have z' : kindO (gb s (p + 1)) = 0 := z
      have h' := h
      simp only [isAc, z', Bool.and_eq_true] at h'
      simp [fitsK] at h'
    rw [agV, if_neg ne, e]; rfl
  have HN : Hid (isAc s p = false → agV s p = #[.int .i64 0, .string ⟨#[]⟩, .int .i64 0, .int .i64 0, .string ⟨#[]⟩]) := by
    intro h
    apply agV_no
    rw [act, if_neg (by rw [h]; decide)]; rfl
  have hfx : p + 1 ≤ nend s p := by omega
  rw [hfm] at Hn HD HV
  have hk3 : (kindO (gb s (p + 1)) == 3) = true := by simp [h3]
  clear hg hg1 h3 hfm hf2 hge hb
  generalize kindO (gb s (p + 1)) = kk at *
  have hge2 := gb_in s (nend s p)
  generalize nend s p = e1 at *
  cases hF : fitsK kk (e1 - (p + 1))
  · have HA := hidS (HN.out (by rw [HD.out, hF]; rfl))
    go_enter Tryz.func81, Tryz.ntmps81
    go_wp2_with fail
    refine (Hk.out _).mono ?_
    rintro e w' ⟨rfl, hw⟩
    obtain rfl := hw.symm
    go_wp2_with fail
    refine (Hl.out _).mono ?_
    rintro e w' ⟨rfl, hw⟩
    obtain rfl := hw.symm
    go_wp2_with fail
    refine (Hn.out _).mono ?_
    rintro e w' ⟨rfl, hw⟩
    obtain rfl := hw.symm
    rw [hF]
    go_wp2
    refine bodyPost_ret (v := .agg #[.int .i64 0, .string ⟨#[]⟩, .int .i64 0, .int .i64 0, .string ⟨#[]⟩]) (by simp [results, Tryz.results81, go_sem]) rfl ⟨by rw [HA.out], ?_⟩
    exact (Below.refl _ _).alloc (Nat.le_refl _) _
  · by_cases h1 : e1 < s.size
    · have hgg := hge2 h1
      by_cases h2 : gb s e1 = 125
      · have HA := hidS (HV.out (by rw [HD.out, hF]; simp [h1, h2]))
        have ht2 : (((s[e1]'h1).toNat : Int) != 125) = false := by rw [← hgg, h2]; decide
        clear hgg h2 hge2
        go_enter Tryz.func81, Tryz.ntmps81
        go_wp2_with fail
        refine (Hk.out _).mono ?_
        rintro e w' ⟨rfl, hw⟩
        obtain rfl := hw.symm
        go_wp2_with fail
        refine (Hl.out _).mono ?_
        rintro e w' ⟨rfl, hw⟩
        obtain rfl := hw.symm
        go_wp2_with fail
        refine (Hn.out _).mono ?_
        rintro e w' ⟨rfl, hw⟩
        obtain rfl := hw.symm
        rw [hF]
        go_wp2
        refine bodyPost_ret (v := .agg #[.int .i64 kk, .string (s.extract (p + 1) e1), .int .i64 p, .int .i64 (e1 + 1), .string ⟨#[]⟩]) (by simp [results, Tryz.results81, go_sem]) rfl ⟨by rw [HA.out], ?_⟩
        exact (Below.refl _ _).alloc (Nat.le_refl _) _
      · have HA := hidS (HN.out (by rw [HD.out, hF]; simp [h2]))
        have ht2 : (((s[e1]'h1).toNat : Int) != 125) = true := by rw [← hgg]; simpa using h2
        clear hgg h2 hge2
        go_enter Tryz.func81, Tryz.ntmps81
        go_wp2_with fail
        refine (Hk.out _).mono ?_
        rintro e w' ⟨rfl, hw⟩
        obtain rfl := hw.symm
        go_wp2_with fail
        refine (Hl.out _).mono ?_
        rintro e w' ⟨rfl, hw⟩
        obtain rfl := hw.symm
        go_wp2_with fail
        refine (Hn.out _).mono ?_
        rintro e w' ⟨rfl, hw⟩
        obtain rfl := hw.symm
        rw [hF]
        go_wp2
        refine bodyPost_ret (v := .agg #[.int .i64 0, .string ⟨#[]⟩, .int .i64 0, .int .i64 0, .string ⟨#[]⟩]) (by simp [results, Tryz.results81, go_sem]) rfl ⟨by rw [HA.out], ?_⟩
        exact (Below.refl _ _).alloc (Nat.le_refl _) _
    · have HA := hidS (HN.out (by rw [HD.out, hF]; simp [h1]))
      clear hge2
      go_enter Tryz.func81, Tryz.ntmps81
      go_wp2_with fail
      refine (Hk.out _).mono ?_
      rintro e w' ⟨rfl, hw⟩
      obtain rfl := hw.symm
      go_wp2_with fail
      refine (Hl.out _).mono ?_
      rintro e w' ⟨rfl, hw⟩
      obtain rfl := hw.symm
      go_wp2_with fail
      refine (Hn.out _).mono ?_
      rintro e w' ⟨rfl, hw⟩
      obtain rfl := hw.symm
      rw [hF]
      go_wp2
      refine bodyPost_ret (v := .agg #[.int .i64 0, .string ⟨#[]⟩, .int .i64 0, .int .i64 0, .string ⟨#[]⟩]) (by simp [results, Tryz.results81, go_sem]) rfl ⟨by rw [HA.out], ?_⟩
      exact (Below.refl _ _).alloc (Nat.le_refl _) _
set_option maxHeartbeats 2000000 in
theorem c80kn (s : ByteArray) (p : Nat) (w : World) (hs : s.size ≤ 1000) (hp : p + 1 < s.size) (hb : gb s p = 123) (h3 : kindO (gb s (p + 1)) ≠ 3) :
    Calls Tryz.prog 81 #[.string s, .int .i64 p] w fun e w' => e = .returned (.agg (agV s p)) ∧ Below w.heap.size w w' := by
  have hp0 : p < s.size := by omega
  have hg := gb_in s p hp0
  have ht : ((s[p].toNat : Int) != 123) = false := by rw [← hg, hb]; decide
  have hg1 := gb_in s (p + 1) hp
  have Hk : Hid (∀ w, Calls Tryz.prog 103 #[.int .u8 ((s[p + 1]'hp).toNat : Int)] w fun e w' => e = .returned (.int .i64 (kindO (gb s (p + 1)))) ∧ w' = w) := by
    intro w; rw [hg1]; exact c90 _ w (byS_ge _) (byS_le _)
  have hfm : frm s p = p + 2 := by unfold frm; rw [if_neg h3]
  have hf2 := frm_range s p hp
  have hge : frm s p ≤ nend s p := skp_ge s az (frm s p)
  have hle : nend s p ≤ s.size := skp_le s az (frm s p) hf2.2
  have Hl : Hid (∀ w, Calls Tryz.prog 104 #[.string s, .int .i64 ((p : Int) + 2)] w fun e w' => e = .returned (.int .i64 (nend s p)) ∧ w' = w) := by
    intro w
    have := c91 s (frm s p) w hs hf2.2
    have e : ((frm s p : Nat) : Int) = (p : Int) + 2 := by omega
    rw [e] at this
    exact this
  have Hn : Hid (∀ w, Calls Tryz.prog 105 #[.int .i64 (kindO (gb s (p + 1))), .int .i64 ((nend s p : Int) - ((p : Int) + 2))] w fun e w' => e = .returned (.bool (fitsK (kindO (gb s (p + 1))) (nend s p - frm s p))) ∧ w' = w) :=
    fun w => c92 _ _ _ w (by omega)
  have HK3 := hidS h3
  have HD : Hid (isAc s p = (fitsK (kindO (gb s (p + 1))) (nend s p - frm s p) && decide (nend s p < s.size ∧ gb s (nend s p) = 125))) := by
    show _ = _; unfold isAc; simp [hp, hb]
  have HV : Hid (isAc s p = true → agV s p = #[.int .i64 (kindO (gb s (p + 1))), .string (s.extract (frm s p) (nend s p)), .int .i64 p, .int .i64 (nend s p + 1), .string ⟨#[]⟩]) := by
    intro h
    have e : act s p = ⟨kindO (gb s (p + 1)), s.extract (frm s p) (nend s p), nend s p + 1⟩ := by rw [act, if_pos h]
    have ne : (act s p).kind ≠ 0 := by
      intro z
      rw [e] at z
      have z' : kindO (gb s (p + 1)) = 0 := z
      have h' := h
      simp only [isAc, z', Bool.and_eq_true] at h'
      simp [fitsK] at h'
    rw [agV, if_neg ne, e]; rfl
  have HN : Hid (isAc s p = false → agV s p = #[.int .i64 0, .string ⟨#[]⟩, .int .i64 0, .int .i64 0, .string ⟨#[]⟩]) := by
    intro h
    apply agV_no
    rw [act, if_neg (by rw [h]; decide)]; rfl
  have hfx : p + 2 ≤ nend s p := by omega
  rw [hfm] at Hn HD HV
  have hk3 : (kindO (gb s (p + 1)) == 3) = false := by simp [h3]
  clear hg hg1 h3 hfm hf2 hge hb
  generalize kindO (gb s (p + 1)) = kk at *
  have hge2 := gb_in s (nend s p)
  generalize nend s p = e1 at *
  cases hF : fitsK kk (e1 - (p + 2))
  · have HA := hidS (HN.out (by rw [HD.out, hF]; rfl))
    go_enter Tryz.func81, Tryz.ntmps81
    go_wp2_with fail
    refine (Hk.out _).mono ?_
    rintro e w' ⟨rfl, hw⟩
    obtain rfl := hw.symm
    go_wp2_with fail
    refine (Hl.out _).mono ?_
    rintro e w' ⟨rfl, hw⟩
    obtain rfl := hw.symm
    go_wp2_with fail
    refine (Hn.out _).mono ?_
    rintro e w' ⟨rfl, hw⟩
    obtain rfl := hw.symm
    rw [hF]
    go_wp2
    refine bodyPost_ret (v := .agg #[.int .i64 0, .string ⟨#[]⟩, .int .i64 0, .int .i64 0, .string ⟨#[]⟩]) (by simp [results, Tryz.results81, go_sem]) rfl ⟨by rw [HA.out], ?_⟩
    exact (Below.refl _ _).alloc (Nat.le_refl _) _
  · by_cases h1 : e1 < s.size
    · have hgg := hge2 h1
      by_cases h2 : gb s e1 = 125
      · have HA := hidS (HV.out (by rw [HD.out, hF]; simp [h1, h2]))
        have ht2 : (((s[e1]'h1).toNat : Int) != 125) = false := by rw [← hgg, h2]; decide
        clear hgg h2 hge2
        go_enter Tryz.func81, Tryz.ntmps81
        go_wp2_with fail
        refine (Hk.out _).mono ?_
        rintro e w' ⟨rfl, hw⟩
        obtain rfl := hw.symm
        go_wp2_with fail
        refine (Hl.out _).mono ?_
        rintro e w' ⟨rfl, hw⟩
        obtain rfl := hw.symm
        go_wp2_with fail
        refine (Hn.out _).mono ?_
        rintro e w' ⟨rfl, hw⟩
        obtain rfl := hw.symm
        rw [hF]
        go_wp2
        refine bodyPost_ret (v := .agg #[.int .i64 kk, .string (s.extract (p + 2) e1), .int .i64 p, .int .i64 (e1 + 1), .string ⟨#[]⟩]) (by simp [results, Tryz.results81, go_sem]) rfl ⟨by rw [HA.out], ?_⟩
        exact (Below.refl _ _).alloc (Nat.le_refl _) _
      · have HA := hidS (HN.out (by rw [HD.out, hF]; simp [h2]))
        have ht2 : (((s[e1]'h1).toNat : Int) != 125) = true := by rw [← hgg]; simpa using h2
        clear hgg h2 hge2
        go_enter Tryz.func81, Tryz.ntmps81
        go_wp2_with fail
        refine (Hk.out _).mono ?_
        rintro e w' ⟨rfl, hw⟩
        obtain rfl := hw.symm
        go_wp2_with fail
        refine (Hl.out _).mono ?_
        rintro e w' ⟨rfl, hw⟩
        obtain rfl := hw.symm
        go_wp2_with fail
        refine (Hn.out _).mono ?_
        rintro e w' ⟨rfl, hw⟩
        obtain rfl := hw.symm
        rw [hF]
        go_wp2
        refine bodyPost_ret (v := .agg #[.int .i64 0, .string ⟨#[]⟩, .int .i64 0, .int .i64 0, .string ⟨#[]⟩]) (by simp [results, Tryz.results81, go_sem]) rfl ⟨by rw [HA.out], ?_⟩
        exact (Below.refl _ _).alloc (Nat.le_refl _) _
    · have HA := hidS (HN.out (by rw [HD.out, hF]; simp [h1]))
      clear hge2
      go_enter Tryz.func81, Tryz.ntmps81
      go_wp2_with fail
      refine (Hk.out _).mono ?_
      rintro e w' ⟨rfl, hw⟩
      obtain rfl := hw.symm
      go_wp2_with fail
      refine (Hl.out _).mono ?_
      rintro e w' ⟨rfl, hw⟩
      obtain rfl := hw.symm
      go_wp2_with fail
      refine (Hn.out _).mono ?_
      rintro e w' ⟨rfl, hw⟩
      obtain rfl := hw.symm
      rw [hF]
      go_wp2
      refine bodyPost_ret (v := .agg #[.int .i64 0, .string ⟨#[]⟩, .int .i64 0, .int .i64 0, .string ⟨#[]⟩]) (by simp [results, Tryz.results81, go_sem]) rfl ⟨by rw [HA.out], ?_⟩
      exact (Below.refl _ _).alloc (Nat.le_refl _) _
theorem c80 (s : ByteArray) (p : Nat) (w : World) (hs : s.size ≤ 1000) (hp : p < s.size) :
    Calls Tryz.prog 81 #[.string s, .int .i64 p] w fun e w' => e = .returned (.agg (agV s p)) ∧ Below w.heap.size w w' := by
  by_cases h : p + 1 < s.size ∧ gb s p = 123
  · by_cases h3 : kindO (gb s (p + 1)) = 3
    · exact c80k3 s p w hs h.1 h.2 h3
    · exact c80kn s p w hs h.1 h.2 h3
  · exact c80no s p w hs hp h
end Go.Proofs.YtffkejkgkgfnhaaGreat
