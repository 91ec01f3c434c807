import Derived.Test.YtffkejkgkgfnhabGreatG07
import Derived.Test.YtffkejkgkgfnhabGreatG06
namespace Go.Proofs.YtffkejkgkgfnhabGreat
open Go.RowKit
set_option linter.unusedVariables false
def plx (x : Int) : Int := if x = 4 ∨ x = 6 ∨ x = 8 ∨ x = 10 ∨ x = 12 ∨ x = 14 ∨ x = 16 ∨ x = 18 then x - 1 else x
def plb (x : Int) : Bool := decide (x = 4 ∨ x = 6 ∨ x = 8 ∨ x = 10 ∨ x = 12 ∨ x = 14 ∨ x = 16 ∨ x = 18)
theorem ret_two {k : IntKind} {a b : Int} {c d : Bool} (h : a = b) (h' : c = d) : Ending.returned (.tuple #[.int k a, .bool c]) = .returned (.tuple #[.int k b, .bool d]) := by rw [h, h']
set_option maxHeartbeats 400000 in
theorem c64 (x : Int) (w : World) (h0 : 0 ≤ x) (h1 : x ≤ 23) :
    Calls Tryz.prog 37 #[.int .i64 x] w fun e w' => e = .returned (.tuple #[.int .i64 (plx x), .bool (plb x)]) ∧ w' = w := by
  go_enter Tryz.func37, Tryz.ntmps37
  go_wp2
  all_goals go_ret2
  all_goals refine ⟨ret_two ?_ ?_, rfl⟩
  all_goals grind (splits := 40) [plx, plb]
theorem plx_in (x : Int) (h : 3 ≤ x ∧ x ≤ 18) : plx x = 3 ∨ plx x = 5 ∨ plx x = 7 ∨ plx x = 9 ∨ plx x = 11 ∨ plx x = 13 ∨ plx x = 15 ∨ plx x = 17 := by unfold plx; split <;> omega
theorem rst_plain (x b : Int) (h : 3 ≤ x ∧ x ≤ 18) (e : plb x = false) : tg (plx x) b = stp x b := by grind (splits := 60) [plb, plx, stp]
theorem rst_lost (x b : Int) (h : 3 ≤ x ∧ x ≤ 18) (e : plb x = true) (k : tg (plx x) b = -1) : stp x b = -1 := by
  simp only [plb, decide_eq_true_eq] at e
  rcases e with rfl | rfl | rfl | rfl | rfl | rfl | rfl | rfl <;> simp [plx] at k <;> simp [stp, k, up]
  cases q : wdB b
  · rfl
  · simp [tg, q] at k
theorem rst_name (x b : Int) (h : x = 4) (k : tg (plx x) b = 3) : stp x b = 3 := by
  subst h; simp [plx] at k; simp [stp]; intro q; simp [tg, q] at k; grind
theorem rst_text (x b : Int) (h : 3 ≤ x ∧ x ≤ 18) (e : plb x = true) (k : tg (plx x) b = 0) : stp x b = 19 := by
  simp only [plb, decide_eq_true_eq] at e
  rcases e with rfl | rfl | rfl | rfl | rfl | rfl | rfl | rfl <;> simp [plx] at k <;> simp [stp, k, up]
  simp only [tg] at k; grind
theorem rst_up (x b : Int) (h : 3 ≤ x ∧ x ≤ 18) (e : plb x = true) (k0 : tg (plx x) b ≠ -1) (k1 : tg (plx x) b ≠ 0) (k3 : x = 4 → tg (plx x) b ≠ 3) : stp x b = tg (plx x) b + 1 := by
  simp only [plb, decide_eq_true_eq] at e
  rcases e with rfl | rfl | rfl | rfl | rfl | rfl | rfl | rfl <;> simp [plx] at k0 k1 k3 <;> simp [stp, k0, k1, up, plx]
  intro q; simp [tg, q] at k3
set_option maxHeartbeats 1000000 in
theorem c32 (x b : Int) (w : World) (h0 : 0 ≤ b) (h1 : b ≤ 255) (hx0 : -1 ≤ x) (hx1 : x ≤ 23) :
    Calls Tryz.prog 18 #[.int .i64 x, .int .u8 b] w fun e w' => e = .returned (.int .i64 (stp x b)) ∧ w' = w := by
  have Hl := hide (stp_lost b)
  have hr := tg_range (plx x) b
  have hr4 := tg_range (plx 4) b
  go_enter Tryz.func18, Tryz.ntmps18
  go_wp2_with (first | (go_at_call 35; refine (c62 _ _ _ (by omega) (by omega) (by omega)).mono ?_; rintro e w' ⟨rfl, rfl⟩) | (go_at_call 36; refine (c63 _ _ _ (by omega) (by omega) (by omega)).mono ?_; rintro e w' ⟨rfl, rfl⟩) | (go_at_call 37; refine (c64 _ _ (by omega) (by omega)).mono ?_; rintro e w' ⟨rfl, rfl⟩) | (go_at_call 38; refine (c65 _ _ _ (by omega) (by omega) (plx_in _ (by omega))).mono ?_; rintro e w' ⟨rfl, rfl⟩))
  all_goals go_ret
  all_goals refine ⟨ret_int ?_, rfl⟩
  all_goals grind (splits := 40) [stp_code, rst_plain, rst_lost, rst_name, rst_text, rst_up, Hid, stp_lost]
set_option maxHeartbeats 1000000 in
theorem c22 (c : Int) (s : ByteArray) (w : World) (hs : s.size ≤ maxLen) :
    Calls Tryz.prog 10 #[.int .i64 c, .string s] w fun e w' => e = .returned (.int .i64 (scn c s.data.toList)) ∧ w' = w := by
  unfold maxLen at hs
  by_cases hc : c < 0 ∨ 24 ≤ c
  · rw [scn_out _ _ hc]
    go_enter Tryz.func10, Tryz.ntmps10
    go_wp2
    all_goals (go_ret; exact ⟨rfl, rfl⟩)
  · have hc0 : 0 ≤ c := by omega
    have hc1 : c ≤ 23 := by omega
    clear hc
    rw [scn_in _ _ hc0 hc1]
    go_enter Tryz.func10, Tryz.ntmps10
    go_wp2
    go_loop [0, 5] (fun x i => ∃ k : Nat, k ≤ s.size ∧ i = .int .i64 k ∧ x = .int .i64 (scl c (s.data.toList.take k))) (fun _ i => s.size - (intOf i).toNat)
    case atStart => exact ⟨0, Nat.zero_le _, rfl, rfl⟩
    case round =>
      obtain ⟨k, hk, rfl, rfl⟩ := hrel
      have hr := scl_range c (s.data.toList.take k) ⟨by omega, by omega⟩
      have Hsn := hide (scl_snoc c s k)
      have Hall : Hid (k = s.size → scl c (s.data.toList.take k) = scl c s.data.toList) := by
        intro e; rw [List.take_of_length_le (by simp [e])]
      generalize hx : scl c (s.data.toList.take k) = x at *
      have Hx := hide hx
      clear hx
      by_cases hlt : k < s.size
      · go_wp2_with (go_at_call 18; refine (c32 _ _ _ (byte_ge _) (byte_le _) (by omega) (by omega)).mono ?_; rintro e w' ⟨rfl, rfl⟩)
        go_round
        case rel => exact ⟨k + 1, by omega, by go_num, by rw [Hsn.out hlt]⟩
        case measure => simp [intOf]; omega
      · go_wp2
        go_ret
        exact ⟨ret_int (Hall.out (by omega)), rfl⟩
end Go.Proofs.YtffkejkgkgfnhabGreat
namespace Go.Proofs.YtffkejkgkgfnhabGreat
set_option linter.unusedVariables false
def manyB (m : Nat) : Bool := decide (m &&& (m - 1) ≠ 0)
def bt (m : Nat) : Cs := fun y => m.testBit y = true
theorem low_same (m y : Nat) (h : 0 < m % 2 ^ y) : (m - 1).testBit y = m.testBit y := by
  have hp : 0 < 2 ^ y := Nat.two_pow_pos y
  have e : (m - 1) / 2 ^ y = m / 2 ^ y := by
    have hd := Nat.div_add_mod m (2 ^ y)
    have hl := Nat.mod_lt m hp
    have : m - 1 = 2 ^ y * (m / 2 ^ y) + (m % 2 ^ y - 1) := by omega
    rw [this, Nat.mul_add_div hp, Nat.div_eq_of_lt (a := m % 2 ^ y - 1) (by omega), Nat.add_zero]
  rw [Nat.testBit_eq_decide_div_mod_eq, Nat.testBit_eq_decide_div_mod_eq, e]
theorem low_bit (m y : Nat) (h : 0 < m % 2 ^ y) : ∃ x, x < y ∧ m.testBit x = true := by
  have hne : m % 2 ^ y ≠ 0 := by omega
  obtain ⟨x, hx⟩ := Nat.exists_testBit_of_ne_zero hne
  rw [Nat.testBit_mod_two_pow] at hx
  simp at hx
  exact ⟨x, hx⟩
theorem many_two (m : Nat) (h : manyB m = true) : two (bt m) := by
  simp only [manyB, decide_eq_true_eq] at h
  obtain ⟨y, hy⟩ := Nat.exists_testBit_of_ne_zero h
  rw [Nat.testBit_and, Bool.and_eq_true] at hy
  obtain ⟨h1, h2⟩ := hy
  by_cases hr : 0 < m % 2 ^ y
  · obtain ⟨x, hx, hb⟩ := low_bit m y hr
    exact ⟨x, y, hb, h1, by omega⟩
  · exfalso
    have hp : 0 < 2 ^ y := Nat.two_pow_pos y
    have hd := Nat.div_add_mod m (2 ^ y)
    rw [Nat.testBit_eq_decide_div_mod_eq, decide_eq_true_eq] at h1 h2
    have hq : 0 < m / 2 ^ y := by
      rcases Nat.eq_zero_or_pos (m / 2 ^ y) with e | e
      · rw [e] at h1; simp at h1
      · exact e
    obtain ⟨q, hq'⟩ : ∃ q, m / 2 ^ y = q + 1 := ⟨m / 2 ^ y - 1, by omega⟩
    have hm : m = 2 ^ y * q + 2 ^ y := by rw [hq'] at hd; rw [Nat.mul_add] at hd; omega
    have : (m - 1) / 2 ^ y = q := by
      have : m - 1 = 2 ^ y * q + (2 ^ y - 1) := by omega
      rw [this, Nat.mul_add_div hp, Nat.div_eq_of_lt (a := 2 ^ y - 1) (by omega), Nat.add_zero]
    rw [this] at h2; rw [hq'] at h1; omega
theorem two_many (m : Nat) (h : two (bt m)) : manyB m = true := by
  have key : ∀ x y, x < y → m.testBit x = true → m.testBit y = true → manyB m = true := by
    intro x y hxy hx hy
    have hr : 0 < m % 2 ^ y := by
      apply Nat.pos_of_ne_zero
      intro e
      have := Nat.testBit_mod_two_pow m y x
      rw [e, hx] at this
      simp at this; omega
    simp only [manyB, decide_eq_true_eq]
    intro e
    have : (m &&& (m - 1)).testBit y = true := by rw [Nat.testBit_and, low_same m y hr, hy]; rfl
    rw [e] at this; simp at this
  obtain ⟨x, y, hx, hy, hne⟩ := h
  rcases Nat.lt_or_gt_of_ne hne with h | h
  · exact key x y h hx hy
  · exact key y x h hy hx
theorem bt_lt (m x : Nat) (h : m < 2 ^ 24) (hx : bt m x) : x < 24 := by
  apply Decidable.byContradiction
  intro hn
  have : m.testBit x = false := Nat.testBit_lt_two_pow (Nat.lt_of_lt_of_le h (Nat.pow_le_pow_right (by decide) (by omega)))
  rw [bt, this] at hx; cases hx
theorem bt_or (a b y : Nat) : bt (a ||| b) y ↔ bt a y ∨ bt b y := by simp [bt, Nat.testBit_or]
theorem bt_pow (a y : Nat) : bt (2 ^ a) y ↔ y = a := by simp [bt, Nat.testBit_two_pow]; omega
theorem bt_zero (y : Nat) : ¬ bt 0 y := by simp [bt]
theorem or_lt24 {a b : Nat} (ha : a < 2 ^ 24) (hb : b < 2 ^ 24) : a ||| b < 2 ^ 24 := Nat.or_lt_two_pow ha hb
structure RS where
  beg : Nat → Bool
  en : Nat → Nat
  used : Nat → Bool
  wrong : Bool
  new : Bool
def upd (f : Nat → Bool) (k : Nat) : Nat → Bool := fun j => if j = k then true else f j
theorem upd_at (f : Nat → Bool) (k : Nat) : upd f k k = true := by simp [upd]
def placeR (m : Nat) (st : RS) : RS := { st with wrong := st.wrong || manyB m }
def tOut (l : List UInt8) (m : Nat) : Nat → Nat
  | 0 => 0
  | k + 1 => if m.testBit k = true ∧ scn k l ≠ -1 then tOut l m k ||| 2 ^ (scn k l).toNat else tOut l m k
def tBad (l : List UInt8) (m : Nat) : Nat → Bool
  | 0 => false
  | k + 1 => tBad l m k || (m.testBit k && decide (scn k l = -1))
def hBad (m : Nat) : Nat → Bool
  | 0 => false
  | k + 1 => hBad m k || (m.testBit k && !opS k)
def hUse (a m : Nat) (f : Nat → Bool) : Nat → Nat → Bool
  | 0 => f
  | k + 1 => if m.testBit k = true ∧ opS k = true then upd (hUse a m f k) (a * 24 + k) else hUse a m f k
def cOut (t m : Nat) (en : Nat → Nat) : Nat → Nat
  | 0 => 0
  | k + 1 => if m.testBit k = true then cOut t m en k ||| en (t * 24 + k) else cOut t m en k
def cBeg (t m : Nat) (f : Nat → Bool) : Nat → Nat → Bool
  | 0 => f
  | k + 1 => if m.testBit k = true then upd (cBeg t m f k) (t * 24 + k) else cBeg t m f k
def cNew (t m : Nat) (f : Nat → Bool) (n : Bool) : Nat → Bool
  | 0 => n
  | k + 1 => cNew t m f n k || (m.testBit k && !f (t * 24 + k))
theorem tOut_iff (l : List UInt8) (m k y : Nat) : bt (tOut l m k) y ↔ ∃ x, x < k ∧ bt m x ∧ scn x l = (y : Int) := by
  induction k with
  | zero => simp [tOut, bt]
  | succ k ih =>
    have hr := scn_range k l
    simp only [tOut]
    split
    · rename_i h
      rw [bt_or, ih, bt_pow]
      constructor
      · rintro (⟨x, h1, h2, h3⟩ | h1)
        · exact ⟨x, by omega, h2, h3⟩
        · exact ⟨k, by omega, h.1, by omega⟩
      · rintro ⟨x, h1, h2, h3⟩
        by_cases e : x = k
        · subst e; right; omega
        · exact .inl ⟨x, by omega, h2, h3⟩
    · rename_i h
      rw [ih]
      constructor
      · rintro ⟨x, h1, h2, h3⟩; exact ⟨x, by omega, h2, h3⟩
      · rintro ⟨x, h1, h2, h3⟩
        by_cases e : x = k
        · subst e; exact absurd ⟨h2, by omega⟩ h
        · exact ⟨x, by omega, h2, h3⟩
theorem tOut_lt (l : List UInt8) (m k : Nat) : tOut l m k < 2 ^ 24 := by
  induction k with
  | zero => simp [tOut]
  | succ k ih =>
    simp only [tOut]
    split
    · refine or_lt24 ih (Nat.pow_lt_pow_right (by decide) ?_)
      have := scn_range k l
      omega
    · exact ih
theorem tBad_iff (l : List UInt8) (m k : Nat) : tBad l m k = true ↔ ∃ x, x < k ∧ bt m x ∧ scn x l = -1 := by
  induction k with
  | zero => simp [tBad]
  | succ k ih =>
    simp only [tBad, Bool.or_eq_true, Bool.and_eq_true, decide_eq_true_eq, ih]
    constructor
    · rintro (⟨x, h1, h2, h3⟩ | ⟨h1, h2⟩)
      · exact ⟨x, by omega, h2, h3⟩
      · exact ⟨k, by omega, h1, h2⟩
    · rintro ⟨x, h1, h2, h3⟩
      by_cases e : x = k
      · subst e; exact .inr ⟨h2, h3⟩
      · exact .inl ⟨x, by omega, h2, h3⟩
theorem hBad_iff (m k : Nat) : hBad m k = true ↔ ∃ x, x < k ∧ bt m x ∧ opS x = false := by
  induction k with
  | zero => simp [hBad]
  | succ k ih =>
    simp only [hBad, Bool.or_eq_true, Bool.and_eq_true, Bool.not_eq_true', ih]
    constructor
    · rintro (⟨x, h1, h2, h3⟩ | ⟨h1, h2⟩)
      · exact ⟨x, by omega, h2, h3⟩
      · exact ⟨k, by omega, h1, h2⟩
    · rintro ⟨x, h1, h2, h3⟩
      by_cases e : x = k
      · subst e; exact .inr ⟨h2, h3⟩
      · exact .inl ⟨x, by omega, h2, h3⟩
theorem hUse_iff (a m : Nat) (f : Nat → Bool) (k j : Nat) : hUse a m f k j = true ↔ f j = true ∨ ∃ x, x < k ∧ bt m x ∧ opS x = true ∧ j = a * 24 + x := by
  induction k with
  | zero => simp [hUse]
  | succ k ih =>
    simp only [hUse]
    split
    · rename_i h
      unfold upd
      split
      · rename_i e
        simp only [true_iff]
        exact .inr ⟨k, by omega, h.1, h.2, e⟩
      · rename_i e
        rw [ih]
        constructor
        · rintro (h1 | ⟨x, h1, h2, h3, h4⟩)
          · exact .inl h1
          · exact .inr ⟨x, by omega, h2, h3, h4⟩
        · rintro (h1 | ⟨x, h1, h2, h3, h4⟩)
          · exact .inl h1
          · by_cases e2 : x = k
            · subst e2; exact absurd h4 e
            · exact .inr ⟨x, by omega, h2, h3, h4⟩
    · rename_i h
      rw [ih]
      constructor
      · rintro (h1 | ⟨x, h1, h2, h3, h4⟩)
        · exact .inl h1
        · exact .inr ⟨x, by omega, h2, h3, h4⟩
      · rintro (h1 | ⟨x, h1, h2, h3, h4⟩)
        · exact .inl h1
        · by_cases e2 : x = k
          · subst e2; exact absurd ⟨h2, h3⟩ h
          · exact .inr ⟨x, by omega, h2, h3, h4⟩
theorem cOut_iff (t m : Nat) (en : Nat → Nat) (k y : Nat) : bt (cOut t m en k) y ↔ ∃ x, x < k ∧ bt m x ∧ bt (en (t * 24 + x)) y := by
  induction k with
  | zero => simp [cOut, bt]
  | succ k ih =>
    simp only [cOut]
    split
    · rename_i h
      rw [bt_or, ih]
      constructor
      · rintro (⟨x, h1, h2, h3⟩ | h1)
        · exact ⟨x, by omega, h2, h3⟩
        · exact ⟨k, by omega, h, h1⟩
      · rintro ⟨x, h1, h2, h3⟩
        by_cases e : x = k
        · subst e; exact .inr h3
        · exact .inl ⟨x, by omega, h2, h3⟩
    · rename_i h
      rw [ih]
      constructor
      · rintro ⟨x, h1, h2, h3⟩; exact ⟨x, by omega, h2, h3⟩
      · rintro ⟨x, h1, h2, h3⟩
        by_cases e : x = k
        · subst e; exact absurd h2 h
        · exact ⟨x, by omega, h2, h3⟩
theorem cOut_lt (t m : Nat) (en : Nat → Nat) (h : ∀ j, en j < 2 ^ 24) (k : Nat) : cOut t m en k < 2 ^ 24 := by
  induction k with
  | zero => simp [cOut]
  | succ k ih =>
    simp only [cOut]
    split
    · exact or_lt24 ih (h _)
    · exact ih
theorem cBeg_iff (t m : Nat) (f : Nat → Bool) (k j : Nat) : cBeg t m f k j = true ↔ f j = true ∨ ∃ x, x < k ∧ bt m x ∧ j = t * 24 + x := by
  induction k with
  | zero => simp [cBeg]
  | succ k ih =>
    simp only [cBeg]
    split
    · rename_i h
      unfold upd
      split
      · rename_i e
        simp only [true_iff]
        exact .inr ⟨k, by omega, h, e⟩
      · rename_i e
        rw [ih]
        constructor
        · rintro (h1 | ⟨x, h1, h2, h4⟩)
          · exact .inl h1
          · exact .inr ⟨x, by omega, h2, h4⟩
        · rintro (h1 | ⟨x, h1, h2, h4⟩)
          · exact .inl h1
          · by_cases e2 : x = k
            · subst e2; exact absurd h4 e
            · exact .inr ⟨x, by omega, h2, h4⟩
    · rename_i h
      rw [ih]
      constructor
      · rintro (h1 | ⟨x, h1, h2, h4⟩)
        · exact .inl h1
        · exact .inr ⟨x, by omega, h2, h4⟩
      · rintro (h1 | ⟨x, h1, h2, h4⟩)
        · exact .inl h1
        · by_cases e2 : x = k
          · subst e2; exact absurd h2 h
          · exact .inr ⟨x, by omega, h2, h4⟩
theorem cNew_no (t m : Nat) (f : Nat → Bool) (n : Bool) (k : Nat) (h : cNew t m f n k = false) : n = false ∧ ∀ x, x < k → bt m x → f (t * 24 + x) = true := by
  induction k with
  | zero => exact ⟨h, fun x hx => absurd hx (by omega)⟩
  | succ k ih =>
    simp only [cNew, Bool.or_eq_false_iff] at h
    obtain ⟨h1, h2⟩ := ih h.1
    refine ⟨h1, fun x hx hm => ?_⟩
    by_cases e : x = k
    · subst e
      have := h.2
      rw [bt] at hm
      simpa [hm] using this
    · exact h2 x (by omega) hm
inductive Job where
  | thr (b : Nds)
  | pce (k a : Int) (nm : ByteArray) (th el : Nds) (tw : Bool)
  | lps (th : Nds)
inductive Run (ts : List Tm) : Job → Nat → RS → Nat → RS → Prop where
  | nil {m : Nat} {st : RS} : Run ts (.thr .nil) m st m (placeR m st)
  | cons {k a : Int} {nm : ByteArray} {th el r : Nds} {tw : Bool} {m m1 m2 : Nat} {st st1 st2 : RS} (h : Run ts (.pce k a nm th el tw) m (placeR m st) m1 st1) (h' : Run ts (.thr r) m1 st1 m2 st2) : Run ts (.thr (.cons k a nm th el tw r)) m st m2 st2
  | text {a : Int} {nm : ByteArray} {th el : Nds} {tw : Bool} {m : Nat} {st : RS} : Run ts (.pce 1 a nm th el tw) m st (tOut nm.data.toList m 24) { st with wrong := st.wrong || tBad nm.data.toList m 24 }
  | hole {a : Int} {nm : ByteArray} {th el : Nds} {tw : Bool} {m : Nat} {st : RS} : Run ts (.pce 2 a nm th el tw) m st m { st with wrong := st.wrong || hBad m 24, used := hUse a.toNat m st.used 24 }
  | one {a : Int} {nm : ByteArray} {th el : Nds} {m f : Nat} {st st1 : RS} (h : Run ts (.thr th) m st f st1) : Run ts (.pce 3 a nm th el false) m st (f ||| m) st1
  | two {a : Int} {nm : ByteArray} {th el : Nds} {m f g : Nat} {st st1 st2 : RS} (h : Run ts (.thr th) m st f st1) (h' : Run ts (.thr el) m st1 g st2) : Run ts (.pce 3 a nm th el true) m st (f ||| g) st2
  | loop {a : Int} {nm : ByteArray} {th el : Nds} {tw : Bool} {m o : Nat} {st st1 : RS} (h : Run ts (.lps th) m st o st1) : Run ts (.pce 4 a nm th el tw) m st o st1
  | call {a : Int} {nm : ByteArray} {th el : Nds} {tw : Bool} {m : Nat} {st : RS} : Run ts (.pce 5 a nm th el tw) m st (cOut (tno ts nm) m st.en 24) { st with beg := cBeg (tno ts nm) m st.beg 24, new := cNew (tno ts nm) m st.beg st.new 24 }
  | stop {th : Nds} {m e : Nat} {st st1 : RS} (h : Run ts (.thr th) m st e st1) (hs : st1.wrong = true ∨ m ||| e = m) : Run ts (.lps th) m st (m ||| e) st1
  | more {th : Nds} {m e o : Nat} {st st1 st2 : RS} (h : Run ts (.thr th) m st e st1) (h' : Run ts (.lps th) (m ||| e) st1 o st2) : Run ts (.lps th) m st o st2
end Go.Proofs.YtffkejkgkgfnhabGreat
namespace Go.Proofs.YtffkejkgkgfnhabGreat
set_option linter.unusedVariables false
structure Snd (ts : List Tm) (t0 : Nat) (st : RS) : Prop where
  beg : ∀ t x, x < 24 → st.beg (t * 24 + x) = true → Bs ts t0 t x
  en : ∀ t x y, x < 24 → bt (st.en (t * 24 + x)) y → Es ts t0 t x y
  used : ∀ a x, x < 24 → st.used (a * 24 + x) = true → Evs ts t0 (.use a x)
  wrong : st.wrong = true → TBad ts t0
  size : ∀ j, st.en j < 2 ^ 24
theorem key_eq {t x t' x' : Nat} (hx : x < 24) (hx' : x' < 24) (h : t * 24 + x = t' * 24 + x') : t = t' ∧ x = x' := by omega
def jevt (ts : List Tm) (E : En) : Job → Cs → Ev → Prop
  | .thr b, S, e => evt ts E b S e
  | .pce k a nm th el tw, S, e => pevt ts E k a nm (sem ts E th) (evt ts E th) (evt ts E el) tw S e
  | .lps th, S, e => evt ts E th S e
def jsem (ts : List Tm) (E : En) : Job → Cs → Cs
  | .thr b, S => sem ts E b S
  | .pce k a nm th el tw, S => psem ts E k nm (sem ts E th) (sem ts E el) tw S
  | .lps th, S => S
def jcl (ts : List Tm) (E : En) : Job → Cs → Prop
  | .lps th, S => ∀ z, sem ts E th S z → S z
  | _, _ => True
theorem Snd.wr {ts : List Tm} {t0 : Nat} {st : RS} (h : Snd ts t0 st) (b : Bool) (hb : b = true → TBad ts t0) : Snd ts t0 { st with wrong := st.wrong || b } :=
  ⟨h.beg, h.en, h.used, fun k => by
    rcases Bool.or_eq_true_iff.1 k with k | k
    · exact h.wrong k
    · exact hb k, h.size⟩
theorem run_sound {ts : List Tm} {t0 : Nat} {j : Job} {m o : Nat} {st st' : RS} (h : Run ts j m st o st') : m < 2 ^ 24 → ∀ S : Cs, (∀ y, bt m y → S y) → (∀ e, jevt ts (Es ts t0) j S e → Evs ts t0 e) → jcl ts (Es ts t0) j S → Snd ts t0 st →
    Snd ts t0 st' ∧ o < 2 ^ 24 ∧ ∀ y, bt o y → jsem ts (Es ts t0) j S y := by
  induction h with
  | @nil m st =>
    intro hm S hS hE _ hs
    refine ⟨hs.wr _ (fun hb => .inl (hE _ ⟨rfl, two_mono hS (many_two m hb)⟩)), hm, hS⟩
  | @cons k a nm th el r tw m m1 m2 st st1 st2 h h' ih ih' =>
    intro hm S hS hE _ hs
    have s0 : Snd ts t0 (placeR m st) := hs.wr _ (fun hb => .inl (hE _ (.inl ⟨rfl, two_mono hS (many_two m hb)⟩)))
    obtain ⟨s1, hm1, k1⟩ := ih hm S hS (fun e he => hE e (.inr (.inl he))) trivial s0
    exact ih' hm1 _ k1 (fun e he => hE e (.inr (.inr he))) trivial s1
  | @text a nm th el tw m st =>
    intro hm S hS hE _ hs
    refine ⟨hs.wr _ (fun hb => ?_), tOut_lt _ _ _, fun y hy => ?_⟩
    · obtain ⟨x, _, h2, h3⟩ := (tBad_iff _ _ _).1 hb
      exact .inl (hE .bad ⟨rfl, x, hS x h2, h3⟩)
    · obtain ⟨x, _, h2, h3⟩ := (tOut_iff _ _ _ _).1 hy
      exact ⟨x, hS x h2, h3⟩
  | @hole a nm th el tw m st =>
    intro hm S hS hE _ hs
    have hE' : ∀ e x, S x → (if opS x = true then e = .use a.toNat x else e = .bad) → Evs ts t0 e := fun e x h1 h2 => hE e ⟨x, h1, h2⟩
    refine ⟨⟨hs.beg, hs.en, fun a' x hx hu => ?_, fun k => ?_, hs.size⟩, hm, hS⟩
    · rcases (hUse_iff _ _ _ _ _).1 hu with h | ⟨x', h1, h2, h3, h4⟩
      · exact hs.used a' x hx h
      · obtain ⟨rfl, rfl⟩ := key_eq hx h1 h4
        exact hE' _ x (hS x h2) (by rw [if_pos h3])
    · rcases Bool.or_eq_true_iff.1 k with k | k
      · exact hs.wrong k
      · obtain ⟨x, _, h2, h3⟩ := (hBad_iff _ _).1 k
        exact .inl (hE' .bad x (hS x h2) (by rw [if_neg (by rw [h3]; decide)]))
  | @one a nm th el m f st st1 h ih =>
    intro hm S hS hE _ hs
    obtain ⟨s1, h1, k1⟩ := ih hm S hS (fun e he => hE e (.inl he)) trivial hs
    refine ⟨s1, or_lt24 h1 hm, fun y hy => ?_⟩
    rcases (bt_or _ _ _).1 hy with h | h
    · exact .inl (k1 y h)
    · exact .inr (hS y h)
  | @two a nm th el m f g st st1 st2 h h' ih ih' =>
    intro hm S hS hE _ hs
    obtain ⟨s1, h1, k1⟩ := ih hm S hS (fun e he => hE e (.inl he)) trivial hs
    obtain ⟨s2, h2, k2⟩ := ih' hm S hS (fun e he => hE e (.inr ⟨rfl, he⟩)) trivial s1
    refine ⟨s2, or_lt24 h1 h2, fun y hy => ?_⟩
    rcases (bt_or _ _ _).1 hy with h | h
    · exact .inl (k1 y h)
    · exact .inr (k2 y h)
  | @loop a nm th el tw m o st st1 h ih =>
    intro hm S hS hE _ hs
    exact ih hm (lfp (sem ts (Es ts t0) th) S) (fun y hy => lfp_in _ _ _ (hS y hy)) hE
      (fun z hz => lfp_step _ _ (sem_mono (fun _ _ _ q => q) th) z hz) hs
  | @call a nm th el tw m st =>
    intro hm S hS hE _ hs
    have hE' : ∀ x, S x → Evs ts t0 (.call (tno ts nm) x) := fun x h1 => hE _ ⟨x, h1, rfl⟩
    refine ⟨⟨fun t x hx hb => ?_, hs.en, hs.used, hs.wrong, hs.size⟩, cOut_lt _ _ _ hs.size _, fun y hy => ?_⟩
    · rcases (cBeg_iff _ _ _ _ _).1 hb with h | ⟨x', h1, h2, h3⟩
      · exact hs.beg t x hx h
      · obtain ⟨rfl, rfl⟩ := key_eq hx h1 h3
        obtain ⟨t1, x1, q1, q2⟩ := hE' x (hS x h2)
        exact (true_closed ts t0).calls t1 x1 _ _ q1 q2
    · obtain ⟨x, h1, h2, h3⟩ := (cOut_iff _ _ _ _ _).1 hy
      exact ⟨x, hS x h2, hs.en _ _ _ h1 h3⟩
  | @stop th m e st st1 h hs' ih =>
    intro hm S hS hE hcl hs
    obtain ⟨s1, h1, k1⟩ := ih hm S hS hE trivial hs
    refine ⟨s1, or_lt24 hm h1, fun y hy => ?_⟩
    rcases (bt_or _ _ _).1 hy with h | h
    · exact hS y h
    · exact hcl y (k1 y h)
  | @more th m e o st st1 st2 h h' ih ih' =>
    intro hm S hS hE hcl hs
    obtain ⟨s1, h1, k1⟩ := ih hm S hS hE trivial hs
    refine ih' (or_lt24 hm h1) S (fun y hy => ?_) hE hcl s1
    rcases (bt_or _ _ _).1 hy with h | h
    · exact hS y h
    · exact hcl y (k1 y h)
theorem run_flags {ts : List Tm} {j : Job} {m o : Nat} {st st' : RS} (h : Run ts j m st o st') : (st'.wrong = false → st.wrong = false) ∧ (st'.new = false → st.new = false ∧ st'.beg = st.beg) ∧ st'.en = st.en ∧ (∀ k, st.used k = true → st'.used k = true) ∧ (∀ k, st.beg k = true → st'.beg k = true) := by
  induction h with
  | nil => exact ⟨fun h => (Bool.or_eq_false_iff.1 h).1, fun h => ⟨h, rfl⟩, rfl, fun _ h => h, fun _ h => h⟩
  | cons h h' ih ih' =>
    obtain ⟨a1, a2, a3, a4, a5⟩ := ih
    obtain ⟨b1, b2, b3, b4, b5⟩ := ih'
    refine ⟨fun h => (Bool.or_eq_false_iff.1 (a1 (b1 h))).1, fun h => ⟨(a2 (b2 h).1).1, (b2 h).2.trans (a2 (b2 h).1).2⟩, b3.trans a3, fun k h => b4 k (a4 k h), fun k h => b5 k (a5 k h)⟩
  | text => exact ⟨fun h => (Bool.or_eq_false_iff.1 h).1, fun h => ⟨h, rfl⟩, rfl, fun _ h => h, fun _ h => h⟩
  | hole => exact ⟨fun h => (Bool.or_eq_false_iff.1 h).1, fun h => ⟨h, rfl⟩, rfl, fun k h => (hUse_iff _ _ _ _ _).2 (.inl h), fun _ h => h⟩
  | one h ih => exact ih
  | two h h' ih ih' =>
    obtain ⟨a1, a2, a3, a4, a5⟩ := ih
    obtain ⟨b1, b2, b3, b4, b5⟩ := ih'
    exact ⟨fun h => a1 (b1 h), fun h => ⟨(a2 (b2 h).1).1, (b2 h).2.trans (a2 (b2 h).1).2⟩, b3.trans a3, fun k h => b4 k (a4 k h), fun k h => b5 k (a5 k h)⟩
  | loop h ih => exact ih
  | @call a nm th el tw m st =>
    refine ⟨fun h => h, fun h => ?_, rfl, fun _ h => h, fun k h => (cBeg_iff _ _ _ _ _).2 (.inl h)⟩
    obtain ⟨h1, h2⟩ := cNew_no _ _ _ _ _ h
    refine ⟨h1, ?_⟩
    funext k
    show cBeg (tno ts nm) m st.beg 24 k = st.beg k
    rw [Bool.eq_iff_iff, cBeg_iff]
    constructor
    · rintro (h | ⟨x, q1, q2, rfl⟩)
      · exact h
      · exact h2 x q1 q2
    · exact .inl
  | stop h hs ih => exact ih
  | more h h' ih ih' =>
    obtain ⟨a1, a2, a3, a4, a5⟩ := ih
    obtain ⟨b1, b2, b3, b4, b5⟩ := ih'
    exact ⟨fun h => a1 (b1 h), fun h => ⟨(a2 (b2 h).1).1, (b2 h).2.trans (a2 (b2 h).1).2⟩, b3.trans a3, fun k h => b4 k (a4 k h), fun k h => b5 k (a5 k h)⟩
def enE (st : RS) : En := fun t x y => x < 24 ∧ bt (st.en (t * 24 + x)) y
def Rec (st : RS) : Ev → Prop
  | .bad => False
  | .use a x => x < 24 ∧ st.used (a * 24 + x) = true
  | .call t x => x < 24 ∧ st.beg (t * 24 + x) = true
theorem Rec.mono {st st' : RS} (h1 : ∀ k, st.used k = true → st'.used k = true) (h2 : ∀ k, st.beg k = true → st'.beg k = true) (e : Ev) (h : Rec st e) : Rec st' e := by
  cases e with
  | bad => exact h
  | use a x => exact ⟨h.1, h1 _ h.2⟩
  | call t x => exact ⟨h.1, h2 _ h.2⟩
def jsemL (ts : List Tm) (E : En) : Job → Cs → Cs
  | .thr b, S => sem ts E b S
  | .pce k a nm th el tw, S => psem ts E k nm (sem ts E th) (sem ts E el) tw S
  | .lps th, S => lfp (sem ts E th) S
def jevtL (ts : List Tm) (E : En) : Job → Cs → Ev → Prop
  | .thr b, S, e => evt ts E b S e
  | .pce k a nm th el tw, S, e => pevt ts E k a nm (sem ts E th) (evt ts E th) (evt ts E el) tw S e
  | .lps th, S, e => evt ts E th (lfp (sem ts E th) S) e
theorem run_full {ts : List Tm} {j : Job} {m o : Nat} {st st' : RS} (h : Run ts j m st o st') : m < 2 ^ 24 → (∀ k, st.en k < 2 ^ 24) → st'.wrong = false → st'.new = false → ∀ E : En, E = enE st →
    o < 2 ^ 24 ∧ (∀ y, jsemL ts E j (bt m) y → bt o y) ∧ (∀ e, jevtL ts E j (bt m) e → Rec st' e) := by
  induction h with
  | @nil m st =>
    intro hm hz hw hn E hE
    refine ⟨hm, fun y h => h, fun e h => ?_⟩
    obtain ⟨rfl, h⟩ := h
    have := (Bool.or_eq_false_iff.1 hw).2
    rw [two_many m h] at this; cases this
  | @cons k a nm th el r tw m m1 m2 st st1 st2 h h' ih ih' =>
    intro hm hz hw hn E hE
    obtain ⟨a1, a2, a3, a4, a5⟩ := run_flags h
    obtain ⟨b1, b2, b3, b4, b5⟩ := run_flags h'
    obtain ⟨hm1, k1, k2⟩ := ih hm hz (b1 hw) (b2 hn).1 E hE
    have hE' : E = enE st1 := by rw [hE]; unfold enE; rw [a3]; rfl
    obtain ⟨hm2, l1, l2⟩ := ih' hm1 (by rw [a3]; exact hz) hw hn E hE'
    refine ⟨hm2, fun y hy => ?_, fun e he => ?_⟩
    · exact l1 y (sem_mono (fun _ _ _ q => q) r _ _ k1 y hy)
    · rcases he with ⟨rfl, h⟩ | he | he
      · have := (Bool.or_eq_false_iff.1 (a1 (b1 hw))).2
        rw [two_many m h] at this; cases this
      · exact (k2 e he).mono b4 b5
      · exact l2 e (evt_mono (fun _ _ _ q => q) e r _ _ k1 he)
  | @text a nm th el tw m st =>
    intro hm hz hw hn E hE
    refine ⟨tOut_lt _ _ _, fun y hy => ?_, fun e he => ?_⟩
    · obtain ⟨x, h1, h2⟩ := hy
      exact (tOut_iff _ _ _ _).2 ⟨x, bt_lt m x hm h1, h1, h2⟩
    · obtain ⟨rfl, x, h1, h2⟩ := he
      have := (Bool.or_eq_false_iff.1 hw).2
      rw [(tBad_iff _ _ _).2 ⟨x, bt_lt m x hm h1, h1, h2⟩] at this; cases this
  | @hole a nm th el tw m st =>
    intro hm hz hw hn E hE
    refine ⟨hm, fun y h => h, fun e he => ?_⟩
    obtain ⟨x, h1, h2⟩ := he
    have hx := bt_lt m x hm h1
    split at h2
    · rename_i ho
      subst h2
      exact ⟨hx, (hUse_iff _ _ _ _ _).2 (.inr ⟨x, hx, h1, ho, rfl⟩)⟩
    · rename_i ho
      have := (Bool.or_eq_false_iff.1 hw).2
      rw [(hBad_iff _ _).2 ⟨x, hx, h1, by simpa using ho⟩] at this; cases this
  | @one a nm th el m f st st1 h ih =>
    intro hm hz hw hn E hE
    obtain ⟨h1, k1, k2⟩ := ih hm hz hw hn E hE
    refine ⟨or_lt24 h1 hm, fun y hy => ?_, fun e he => ?_⟩
    · rcases hy with hy | hy
      · exact (bt_or _ _ _).2 (.inl (k1 y hy))
      · exact (bt_or _ _ _).2 (.inr hy)
    · rcases he with he | ⟨he, _⟩
      · exact k2 e he
      · cases he
  | @two a nm th el m f g st st1 st2 h h' ih ih' =>
    intro hm hz hw hn E hE
    obtain ⟨a1, a2, a3, a4, a5⟩ := run_flags h
    obtain ⟨b1, b2, b3, b4, b5⟩ := run_flags h'
    obtain ⟨h1, k1, k2⟩ := ih hm hz (b1 hw) (b2 hn).1 E hE
    have hE' : E = enE st1 := by rw [hE]; unfold enE; rw [a3]
    obtain ⟨h2, l1, l2⟩ := ih' hm (by rw [a3]; exact hz) hw hn E hE'
    refine ⟨or_lt24 h1 h2, fun y hy => ?_, fun e he => ?_⟩
    · rcases hy with hy | hy
      · exact (bt_or _ _ _).2 (.inl (k1 y hy))
      · exact (bt_or _ _ _).2 (.inr (l1 y hy))
    · rcases he with he | ⟨_, he⟩
      · exact (k2 e he).mono b4 b5
      · exact l2 e he
  | @loop a nm th el tw m o st st1 h ih => intro hm hz hw hn E hE; exact ih hm hz hw hn E hE
  | @call a nm th el tw m st =>
    intro hm hz hw hn E hE
    refine ⟨cOut_lt _ _ _ hz _, fun y hy => ?_, fun e he => ?_⟩
    · obtain ⟨x, h1, h2⟩ := hy
      rw [hE] at h2
      exact (cOut_iff _ _ _ _ _).2 ⟨x, h2.1, h1, h2.2⟩
    · obtain ⟨x, h1, rfl⟩ := he
      have hx := bt_lt m x hm h1
      exact ⟨hx, (cBeg_iff _ _ _ _ _).2 (.inr ⟨x, hx, h1, rfl⟩)⟩
  | @stop th m e st st1 h hs' ih =>
    intro hm hz hw hn E hE
    obtain ⟨h1, k1, k2⟩ := ih hm hz hw hn E hE
    have heq : m ||| e = m := by
      rcases hs' with h | h
      · rw [hw] at h; cases h
      · exact h
    have hle : ∀ y, lfp (sem ts E th) (bt m) y → bt m y := fun y hy => lfp_le _ _ (bt m) (fun _ q => q) (fun z hz' => by
      have := (bt_or m e z).2 (.inr (k1 z hz'))
      rwa [heq] at this) y hy
    refine ⟨or_lt24 hm h1, fun y hy => (bt_or _ _ _).2 (.inl (hle y hy)), fun ev he => ?_⟩
    exact k2 ev (evt_mono (fun _ _ _ q => q) ev th _ _ hle he)
  | @more th m e o st st1 st2 h h' ih ih' =>
    intro hm hz hw hn E hE
    obtain ⟨a1, a2, a3, a4, a5⟩ := run_flags h
    obtain ⟨b1, b2, b3, b4, b5⟩ := run_flags h'
    obtain ⟨h1, k1, k2⟩ := ih hm hz (b1 hw) (b2 hn).1 E hE
    have hE' : E = enE st1 := by rw [hE]; unfold enE; rw [a3]
    obtain ⟨h2, l1, l2⟩ := ih' (or_lt24 hm h1) (by rw [a3]; exact hz) hw hn E hE'
    have hle : ∀ y, lfp (sem ts E th) (bt m) y → lfp (sem ts E th) (bt (m ||| e)) y := fun y hy => lfp_mono (fun _ _ q => q) (fun z hz' => (bt_or _ _ _).2 (.inl hz')) y hy
    refine ⟨h2, fun y hy => l1 y (hle y hy), fun ev he => ?_⟩
    exact l2 ev (evt_mono (fun _ _ _ q => q) ev th _ _ hle he)
end Go.Proofs.YtffkejkgkgfnhabGreat
