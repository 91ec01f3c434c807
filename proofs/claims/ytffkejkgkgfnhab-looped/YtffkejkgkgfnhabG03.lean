import Derived.Test.YtffkejkgkgfnhabProg
import Derived.Test.YtffkejkgkgfnhabG02
import Derived.WalkKit
import Derived.WalkSpells
import Derived.WalkLawsBesides
import Derived.Test.YtffkejkgkgfnhabG01
import Derived.Lib.AppendStr
namespace Go.Proofs.Ytffkejkgkgfnhab
open Go.RowKit
set_option linter.unusedVariables false
theorem ret_int {k : IntKind} {a b : Int} (h : a = b) : Ending.returned (.int k a) = .returned (.int k b) := by rw [h]
theorem ret_bool {a b : Bool} (h : a = b) : Ending.returned (.bool a) = .returned (.bool b) := by rw [h]
set_option maxHeartbeats 400000 in
theorem c73 (b : Int) (w : World) (h0 : 0 ≤ b) (h1 : b ≤ 255) :
    Calls Try.prog 82 #[.int .u8 b] w fun e w' => e = .returned (.bool (ltB b)) ∧ w' = w := by
  go_enter Try.func82, Try.ntmps82
  go_wp2
  all_goals go_ret
  all_goals refine ⟨ret_bool ?_, rfl⟩
  all_goals grind (splits := 40) [ltB]
set_option maxHeartbeats 400000 in
theorem c74 (b : Int) (w : World) (h0 : 0 ≤ b) (h1 : b ≤ 255) :
    Calls Try.prog 73 #[.int .u8 b] w fun e w' => e = .returned (.bool (wdB b)) ∧ w' = w := by
  go_enter Try.func73, Try.ntmps73
  go_wp2_with (first | (go_at_call 82; refine (c73 _ _ (by omega) (by omega)).mono ?_; rintro e w' ⟨rfl, rfl⟩))
  all_goals go_ret
  all_goals refine ⟨ret_bool ?_, rfl⟩
  all_goals grind (splits := 40) [wdB, dgB]
set_option maxHeartbeats 400000 in
theorem c89 (b : Int) (w : World) (h0 : 0 ≤ b) (h1 : b ≤ 255) :
    Calls Try.prog 87 #[.int .u8 b] w fun e w' => e = .returned (.bool (spB b)) ∧ w' = w := by
  go_enter Try.func87, Try.ntmps87
  go_wp2
  all_goals go_ret
  all_goals refine ⟨ret_bool ?_, rfl⟩
  all_goals grind (splits := 40) [spB]
set_option maxHeartbeats 400000 in
theorem c75 (b : Int) (w : World) (h0 : 0 ≤ b) (h1 : b ≤ 255) :
    Calls Try.prog 83 #[.int .u8 b] w fun e w' => e = .returned (.int .i64 (bw b)) ∧ w' = w := by
  go_enter Try.func83, Try.ntmps83
  go_wp2_with (first | (go_at_call 87; refine (c89 _ _ (by omega) (by omega)).mono ?_; rintro e w' ⟨rfl, rfl⟩))
  all_goals go_ret
  all_goals refine ⟨ret_int ?_, rfl⟩
  all_goals grind (splits := 40) [bw]
set_option maxHeartbeats 400000 in
theorem c43 (b : Int) (w : World) (h0 : 0 ≤ b) (h1 : b ≤ 255) :
    Calls Try.prog 62 #[.int .u8 b] w fun e w' => e = .returned (.int .i64 (stp 0 b)) ∧ w' = w := by
  go_enter Try.func62, Try.ntmps62
  go_wp2
  all_goals go_ret
  all_goals refine ⟨ret_int ?_, rfl⟩
  all_goals grind (splits := 40) [stp]
set_option maxHeartbeats 400000 in
theorem c44 (b : Int) (w : World) (h0 : 0 ≤ b) (h1 : b ≤ 255) :
    Calls Try.prog 63 #[.int .u8 b] w fun e w' => e = .returned (.int .i64 (stp 1 b)) ∧ w' = w := by
  go_enter Try.func63, Try.ntmps63
  go_wp2_with (first | (go_at_call 82; refine (c73 _ _ (by omega) (by omega)).mono ?_; rintro e w' ⟨rfl, rfl⟩))
  all_goals go_ret
  all_goals refine ⟨ret_int ?_, rfl⟩
  all_goals grind (splits := 40) [stp, ltB]
set_option maxHeartbeats 400000 in
theorem c45 (b : Int) (w : World) (h0 : 0 ≤ b) (h1 : b ≤ 255) :
    Calls Try.prog 64 #[.int .u8 b] w fun e w' => e = .returned (.int .i64 (stp 2 b)) ∧ w' = w := by
  go_enter Try.func64, Try.ntmps64
  go_wp2
  all_goals go_ret
  all_goals refine ⟨ret_int ?_, rfl⟩
  all_goals grind (splits := 40) [stp]
set_option maxHeartbeats 400000 in
theorem c46 (b : Int) (w : World) (h0 : 0 ≤ b) (h1 : b ≤ 255) :
    Calls Try.prog 65 #[.int .u8 b] w fun e w' => e = .returned (.int .i64 (tg 3 b)) ∧ w' = w := by
  go_enter Try.func65, Try.ntmps65
  go_wp2_with (first | (go_at_call 73; refine (c74 _ _ (by omega) (by omega)).mono ?_; rintro e w' ⟨rfl, rfl⟩) | (go_at_call 83; refine (c75 _ _ (by omega) (by omega)).mono ?_; rintro e w' ⟨rfl, rfl⟩))
  all_goals go_ret
  all_goals refine ⟨ret_int ?_, rfl⟩
  all_goals grind (splits := 40) [tg, bw]
set_option maxHeartbeats 400000 in
theorem c47 (y : Int) (w : World)  :
    Calls Try.prog 66 #[.int .i64 y] w fun e w' => e = .returned (.int .i64 (ws y)) ∧ w' = w := by
  go_enter Try.func66, Try.ntmps66
  go_wp2
  all_goals go_ret
  all_goals refine ⟨ret_int ?_, rfl⟩
  all_goals grind (splits := 40) [ws]
set_option maxHeartbeats 400000 in
theorem c50 (y : Int) (w : World)  :
    Calls Try.prog 69 #[.int .i64 y] w fun e w' => e = .returned (.int .i64 (wo y)) ∧ w' = w := by
  go_enter Try.func69, Try.ntmps69
  go_wp2
  all_goals go_ret
  all_goals refine ⟨ret_int ?_, rfl⟩
  all_goals grind (splits := 40) [wo]
set_option maxHeartbeats 400000 in
theorem c48 (c b : Int) (w : World) (h0 : 0 ≤ b) (h1 : b ≤ 255) (hc : c = 19 ∨ c = 20) :
    Calls Try.prog 67 #[.int .i64 c, .int .u8 b] w fun e w' => e = .returned (.int .i64 (cd c b)) ∧ w' = w := by
  go_enter Try.func67, Try.ntmps67
  go_wp2
  all_goals go_ret
  all_goals refine ⟨ret_int ?_, rfl⟩
  all_goals grind (splits := 40) [cd]
set_option maxHeartbeats 400000 in
theorem c49 (c b : Int) (w : World) (h0 : 0 ≤ b) (h1 : b ≤ 255) (hc : c = 21 ∨ c = 22 ∨ c = 23) :
    Calls Try.prog 68 #[.int .i64 c, .int .u8 b] w fun e w' => e = .returned (.int .i64 (cd c b)) ∧ w' = w := by
  go_enter Try.func68, Try.ntmps68
  go_wp2
  all_goals go_ret
  all_goals refine ⟨ret_int ?_, rfl⟩
  all_goals grind (splits := 40) [cd]
set_option maxHeartbeats 400000 in
theorem c76 (b : Int) (w : World) (h0 : 0 ≤ b) (h1 : b ≤ 255) :
    Calls Try.prog 84 #[.int .u8 b] w fun e w' => e = .returned (.int .i64 (tg 5 b)) ∧ w' = w := by
  go_enter Try.func84, Try.ntmps84
  go_wp2_with (first | (go_at_call 82; refine (c73 _ _ (by omega) (by omega)).mono ?_; rintro e w' ⟨rfl, rfl⟩) | (go_at_call 83; refine (c75 _ _ (by omega) (by omega)).mono ?_; rintro e w' ⟨rfl, rfl⟩))
  all_goals go_ret
  all_goals refine ⟨ret_int ?_, rfl⟩
  all_goals grind (splits := 40) [tg, bw, spB, ltB]
set_option maxHeartbeats 400000 in
theorem c77 (b q : Int) (w : World) (h0 : 0 ≤ b) (h1 : b ≤ 255) :
    Calls Try.prog 85 #[.int .u8 b, .int .i64 q] w fun e w' => e = .returned (.int .i64 (ba b q)) ∧ w' = w := by
  go_enter Try.func85, Try.ntmps85
  go_wp2_with (first | (go_at_call 73; refine (c74 _ _ (by omega) (by omega)).mono ?_; rintro e w' ⟨rfl, rfl⟩) | (go_at_call 83; refine (c75 _ _ (by omega) (by omega)).mono ?_; rintro e w' ⟨rfl, rfl⟩))
  all_goals go_ret
  all_goals refine ⟨ret_int ?_, rfl⟩
  all_goals grind (splits := 40) [ba]
set_option maxHeartbeats 400000 in
theorem c78 (b q : Int) (w : World) (h0 : 0 ≤ b) (h1 : b ≤ 255) :
    Calls Try.prog 86 #[.int .u8 b, .int .i64 q] w fun e w' => e = .returned (.int .i64 (be b q)) ∧ w' = w := by
  go_enter Try.func86, Try.ntmps86
  go_wp2
  all_goals go_ret
  all_goals refine ⟨ret_int ?_, rfl⟩
  all_goals grind (splits := 40) [be]
set_option maxHeartbeats 400000 in
theorem c51 (c b : Int) (w : World) (h0 : 0 ≤ b) (h1 : b ≤ 255) (hc : c ≠ 3) :
    Calls Try.prog 70 #[.int .i64 c, .int .u8 b] w fun e w' => e = .returned (.int .i64 (tg c b)) ∧ w' = w := by
  go_enter Try.func70, Try.ntmps70
  go_wp2_with (first | (go_at_call 84; refine (c76 _ _ (by omega) (by omega)).mono ?_; rintro e w' ⟨rfl, rfl⟩) | (go_at_call 85; refine (c77 _ _ _ (by omega) (by omega)).mono ?_; rintro e w' ⟨rfl, rfl⟩) | (go_at_call 86; refine (c78 _ _ _ (by omega) (by omega)).mono ?_; rintro e w' ⟨rfl, rfl⟩))
  all_goals go_ret
  all_goals refine ⟨ret_int ?_, rfl⟩
  all_goals grind (splits := 40) [tg, ba, be, bw, wdB, ltB, dgB, spB]
set_option maxHeartbeats 1000000 in
theorem c26 (c b : Int) (w : World) (h0 : 0 ≤ b) (h1 : b ≤ 255) (hc0 : 0 ≤ c) (hc1 : c ≤ 23) :
    Calls Try.prog 40 #[.int .i64 c, .int .u8 b] w fun e w' => e = .returned (.int .i64 (stp c b)) ∧ w' = w := by
  go_enter Try.func40, Try.ntmps40
  go_wp2_with (first | (go_at_call 62; refine (c43 _ _ (by omega) (by omega)).mono ?_; rintro e w' ⟨rfl, rfl⟩) | (go_at_call 63; refine (c44 _ _ (by omega) (by omega)).mono ?_; rintro e w' ⟨rfl, rfl⟩) | (go_at_call 64; refine (c45 _ _ (by omega) (by omega)).mono ?_; rintro e w' ⟨rfl, rfl⟩) | (go_at_call 65; refine (c46 _ _ (by omega) (by omega)).mono ?_; rintro e w' ⟨rfl, rfl⟩) | (go_at_call 66; refine (c47 _ _).mono ?_; rintro e w' ⟨rfl, rfl⟩) | (go_at_call 69; refine (c50 _ _).mono ?_; rintro e w' ⟨rfl, rfl⟩) | (go_at_call 67; refine (c48 _ _ _ (by omega) (by omega) (by grind)).mono ?_; rintro e w' ⟨rfl, rfl⟩) | (go_at_call 68; refine (c49 _ _ _ (by omega) (by omega) (by grind)).mono ?_; rintro e w' ⟨rfl, rfl⟩) | (go_at_call 70; refine (c51 _ _ _ (by omega) (by omega) (wo_ne _ (by grind))).mono ?_; rintro e w' ⟨rfl, rfl⟩))
  all_goals go_ret
  all_goals refine ⟨ret_int ?_, rfl⟩
  all_goals grind (splits := 40) [stp_name, stp_nameS, stp_code, stp_plain, stp_S]
end Go.Proofs.Ytffkejkgkgfnhab
namespace Go.Proofs.Ytffkejkgkgfnhab
open Go.RowKit
set_option linter.unusedVariables false
theorem hide {p : Prop} (h : p) : Hid p := h
theorem byte_le (u : UInt8) : (u.toNat : Int) ≤ 255 := by have := UInt8.toNat_lt u; omega
theorem byte_ge (u : UInt8) : (0 : Int) ≤ (u.toNat : Int) := by omega
theorem take_snoc (s : ByteArray) (k : Nat) (h : k < s.size) : s.data.toList.take (k + 1) = s.data.toList.take k ++ [s[k]] := by
  rw [List.take_succ_eq_append_getElem (by simpa using h)]; rfl
theorem scl_snoc (c : Int) (s : ByteArray) (k : Nat) (h : k < s.size) : scl c (s.data.toList.take (k + 1)) = stp (scl c (s.data.toList.take k)) s[k].toNat := by
  rw [take_snoc s k h, scl_append]; rfl
theorem scl_cut (c : Int) (l : List UInt8) (k : Nat) (h : scl c (l.take k) = -1) : scl c l = -1 := by
  rw [← List.take_append_drop k l, scl_append, h, scl_lost]
theorem scn_in (c : Int) (l : List UInt8) (h0 : 0 ≤ c) (h1 : c ≤ 23) : scn c l = scl c l := by unfold scn; rw [if_neg (by omega)]
theorem scn_out (c : Int) (l : List UInt8) (h : c < 0 ∨ 24 ≤ c) : scn c l = -1 := by unfold scn; rw [if_pos h]
set_option maxHeartbeats 1000000 in
theorem c16 (c : Int) (s : ByteArray) (w : World) (hs : s.size ≤ maxLen) :
    Calls Try.prog 75 #[.int .i64 c, .string s] w fun e w' => e = .returned (.int .i64 (scn c s.data.toList)) ∧ w' = w := by
  unfold maxLen at hs
  by_cases hc : c < 0 ∨ 24 ≤ c
  · rw [scn_out _ _ hc]
    go_enter Try.func75, Try.ntmps75
    go_wp2
    all_goals (go_ret; exact ⟨rfl, rfl⟩)
  · have hc0 : 0 ≤ c := by omega
    have hc1 : c ≤ 23 := by omega
    clear hc
    rw [scn_in _ _ hc0 hc1]
    go_enter Try.func75, Try.ntmps75
    go_wp2
    go_loop [0, 5] (fun x i => ∃ k : Nat, k ≤ s.size ∧ i = .int .i64 k ∧ x = .int .i64 (scl c (s.data.toList.take k))) (fun _ i => s.size - (intOf i).toNat)
    case atStart => exact ⟨0, Nat.zero_le _, rfl, rfl⟩
    case round =>
      obtain ⟨k, hk, rfl, rfl⟩ := hrel
      have hr := scl_range c (s.data.toList.take k) ⟨by omega, by omega⟩
      have Hcut := hide (scl_cut c s.data.toList k)
      have Hsn := hide (scl_snoc c s k)
      have Hall : Hid (k = s.size → scl c (s.data.toList.take k) = scl c s.data.toList) := by
        intro e; rw [List.take_of_length_le (by simp [e])]
      generalize hx : scl c (s.data.toList.take k) = x at *
      have Hx := hide hx
      clear hx
      by_cases hlt : k < s.size
      · by_cases hne : x = -1
        · have hq : (x != -1) = false := by simp [hne]
          go_wp2
          go_ret
          exact ⟨ret_int (Hcut.out hne).symm, rfl⟩
        · have hx0 : 0 ≤ x := by omega
          have hx1 : x ≤ 23 := by omega
          have hq : (x != -1) = true := by simp [hne]
          clear hne hr
          go_wp2_with (go_at_call 40; refine (c26 _ _ _ (byte_ge _) (byte_le _) (by omega) (by omega)).mono ?_; rintro e w' ⟨rfl, rfl⟩)
          go_round
          case rel => exact ⟨k + 1, by omega, by go_num, by rw [Hsn.out hlt]⟩
          case measure => simp [intOf]; omega
      · go_wp2
        go_ret
        exact ⟨ret_int (Hall.out (by omega)), rfl⟩
end Go.Proofs.Ytffkejkgkgfnhab
/-
  THE PLAIN MATHEMATICS OF WALKS: what walks come to, by sets of contexts. No Go.
-/
namespace Go.Proofs.Ytffkejkgkgfnhab
set_option linter.unusedVariables false
abbrev Cs := Nat → Prop
abbrev En := Nat → Nat → Nat → Prop
/-- what a walk comes to: something wrong, a hole in a context, a call in a context -/
inductive Ev where
  | bad
  | use (a x : Nat)
  | call (t x : Nat)
def opS (x : Nat) : Bool := decide (x = 0 ∨ x = 15 ∨ x = 16 ∨ x = 17 ∨ x = 18 ∨ x = 19 ∨ x = 21)
def two (S : Cs) : Prop := ∃ x y, S x ∧ S y ∧ x ≠ y
def lfp (f : Cs → Cs) (S : Cs) : Cs := fun y => ∀ X : Cs, (∀ z, S z → X z) → (∀ z, f X z → X z) → X y
def tno (ts : List Tm) (nm : ByteArray) : Nat := (fndF nm ts 0).toNat
def bod (ts : List Tm) (t : Nat) : Nds := match ts[t]? with
  | some m => m.body
  | none => .nil
/-- behind a piece, but for its bodies -/
def psem (ts : List Tm) (E : En) (k : Int) (nm : ByteArray) (ft fe : Cs → Cs) (tw : Bool) (S : Cs) : Cs :=
  if k = 1 then fun y => ∃ x, S x ∧ scn x nm.data.toList = (y : Int)
  else if k = 2 then S
  else if k = 3 then fun y => ft S y ∨ (if tw = true then fe S y else S y)
  else if k = 4 then lfp ft S
  else fun y => ∃ x, S x ∧ E (tno ts nm) x y
def sem (ts : List Tm) (E : En) : Nds → Cs → Cs
  | .nil, S => S
  | .cons k a nm th el tw r, S => sem ts E r (psem ts E k nm (sem ts E th) (sem ts E el) tw S)
def pevt (ts : List Tm) (E : En) (k a : Int) (nm : ByteArray) (ft : Cs → Cs) (gt ge : Cs → Ev → Prop) (tw : Bool) (S : Cs) (e : Ev) : Prop :=
  if k = 1 then e = .bad ∧ ∃ x, S x ∧ scn x nm.data.toList = -1
  else if k = 2 then ∃ x, S x ∧ (if opS x = true then e = .use a.toNat x else e = .bad)
  else if k = 3 then gt S e ∨ (tw = true ∧ ge S e)
  else if k = 4 then gt (lfp ft S) e
  else ∃ x, S x ∧ e = .call (tno ts nm) x
def evt (ts : List Tm) (E : En) : Nds → Cs → Ev → Prop
  | .nil, S, e => e = .bad ∧ two S
  | .cons k a nm th el tw r, S, e => (e = .bad ∧ two S) ∨ pevt ts E k a nm (sem ts E th) (evt ts E th) (evt ts E el) tw S e ∨ evt ts E r (psem ts E k nm (sem ts E th) (sem ts E el) tw S) e
theorem lfp_in (f : Cs → Cs) (S : Cs) (y : Nat) (h : S y) : lfp f S y := fun X h1 _ => h1 y h
theorem lfp_mono {f g : Cs → Cs} {S T : Cs} (hf : ∀ X z, f X z → g X z) (h : ∀ z, S z → T z) (y : Nat) (k : lfp f S y) : lfp g T y :=
  fun X h1 h2 => k X (fun z hz => h1 z (h z hz)) (fun z hz => h2 z (hf X z hz))
theorem lfp_step (f : Cs → Cs) (S : Cs) (hm : ∀ X Y : Cs, (∀ z, X z → Y z) → ∀ z, f X z → f Y z) (y : Nat) (h : f (lfp f S) y) : lfp f S y :=
  fun X h1 h2 => h2 y (hm _ _ (fun z hz => hz X h1 h2) y h)
theorem psem_mono {ts : List Tm} {E F : En} {k : Int} {nm : ByteArray} {ft fe gt ge : Cs → Cs} {tw : Bool} {S T : Cs} (hE : ∀ t x y, E t x y → F t x y) (h1 : ∀ X Y : Cs, (∀ z, X z → Y z) → ∀ z, ft X z → gt Y z) (h2 : ∀ X Y : Cs, (∀ z, X z → Y z) → ∀ z, fe X z → ge Y z) (h : ∀ z, S z → T z) (y : Nat)
    (k' : psem ts E k nm ft fe tw S y) : psem ts F k nm gt ge tw T y := by
  unfold psem at *
  split at k'
  · rename_i e; rw [if_pos e]
    obtain ⟨x, a, b⟩ := k'
    exact ⟨x, h x a, b⟩
  · rename_i e1; rw [if_neg e1]
    split at k'
    · rename_i e; rw [if_pos e]; exact h y k'
    · rename_i e2; rw [if_neg e2]
      split at k'
      · rename_i e; rw [if_pos e]
        rcases k' with k' | k'
        · exact .inl (h1 _ _ h y k')
        · right
          split at k'
          · rename_i e; rw [if_pos e]; exact h2 _ _ h y k'
          · rename_i e; rw [if_neg e]; exact h y k'
      · rename_i e3; rw [if_neg e3]
        split at k'
        · rename_i e; rw [if_pos e]
          exact lfp_mono (fun X z => h1 X X (fun _ q => q) z) h y k'
        · rename_i e4; rw [if_neg e4]
          obtain ⟨x, a, b⟩ := k'
          exact ⟨x, h x a, hE _ _ _ b⟩
theorem sem_mono {ts : List Tm} {E F : En} (hE : ∀ t x y, E t x y → F t x y) (b : Nds) : ∀ (S T : Cs), (∀ z, S z → T z) → ∀ y, sem ts E b S y → sem ts F b T y := by
  induction b with
  | nil => intro S T h y k; exact h y k
  | cons k a nm th el tw r iht ihe ih => intro S T h y k; exact ih _ _ (fun z hz => psem_mono hE iht ihe h z hz) y k
theorem pevt_mono {ts : List Tm} {E F : En} {k a : Int} {nm : ByteArray} {ft ft' : Cs → Cs} {gt ge gt' ge' : Cs → Ev → Prop} {tw : Bool} {S T : Cs} {e : Ev} (h0 : ∀ X Y : Cs, (∀ z, X z → Y z) → ∀ z, ft X z → ft' Y z) (h1 : ∀ X Y : Cs, (∀ z, X z → Y z) → gt X e → gt' Y e) (h2 : ∀ X Y : Cs, (∀ z, X z → Y z) → ge X e → ge' Y e) (h : ∀ z, S z → T z)
    (k' : pevt ts E k a nm ft gt ge tw S e) : pevt ts F k a nm ft' gt' ge' tw T e := by
  unfold pevt at *
  split at k'
  · rename_i q; rw [if_pos q]
    obtain ⟨q1, x, a, b⟩ := k'
    exact ⟨q1, x, h x a, b⟩
  · rename_i e1; rw [if_neg e1]
    split at k'
    · rename_i q; rw [if_pos q]
      obtain ⟨x, a, b⟩ := k'
      exact ⟨x, h x a, b⟩
    · rename_i e2; rw [if_neg e2]
      split at k'
      · rename_i q; rw [if_pos q]
        rcases k' with k' | ⟨q1, k'⟩
        · exact .inl (h1 _ _ h k')
        · exact .inr ⟨q1, h2 _ _ h k'⟩
      · rename_i e3; rw [if_neg e3]
        split at k'
        · rename_i q; rw [if_pos q]
          exact h1 _ _ (fun z hz => lfp_mono (fun X z => h0 X X (fun _ q => q) z) h z hz) k'
        · rename_i e4; rw [if_neg e4]
          obtain ⟨x, a, b⟩ := k'
          exact ⟨x, h x a, b⟩
theorem two_mono {S T : Cs} (h : ∀ z, S z → T z) (k : two S) : two T := by
  obtain ⟨x, y, a, b, c⟩ := k
  exact ⟨x, y, h x a, h y b, c⟩
theorem evt_mono {ts : List Tm} {E F : En} (hE : ∀ t x y, E t x y → F t x y) (e : Ev) (b : Nds) : ∀ (S T : Cs), (∀ z, S z → T z) → evt ts E b S e → evt ts F b T e := by
  induction b with
  | nil => intro S T h k; exact ⟨k.1, two_mono h k.2⟩
  | cons k a nm th el tw r iht ihe ih =>
    intro S T h k
    rcases k with ⟨k1, k2⟩ | k | k
    · exact .inl ⟨k1, two_mono h k2⟩
    · exact .inr (.inl (pevt_mono (sem_mono hE th) iht ihe h k))
    · exact .inr (.inr (ih _ _ (fun z hz => psem_mono hE (sem_mono hE th) (sem_mono hE el) h z hz) k))
def one (x : Nat) : Cs := fun y => y = x
structure Closed (ts : List Tm) (t0 : Nat) (B : Nat → Nat → Prop) (E : En) : Prop where
  start : B t0 0
  ends : ∀ t x y, B t x → sem ts E (bod ts t) (one x) y → E t x y
  calls : ∀ t x t' x', B t x → evt ts E (bod ts t) (one x) (.call t' x') → B t' x'
def Bs (ts : List Tm) (t0 : Nat) (t x : Nat) : Prop := ∀ B E, Closed ts t0 B E → B t x
def Es (ts : List Tm) (t0 : Nat) : En := fun t x y => ∀ B E, Closed ts t0 B E → E t x y
theorem Es_le {ts : List Tm} {t0 : Nat} {B : Nat → Nat → Prop} {E : En} (h : Closed ts t0 B E) (t x y : Nat) (k : Es ts t0 t x y) : E t x y := k B E h
theorem true_closed (ts : List Tm) (t0 : Nat) : Closed ts t0 (Bs ts t0) (Es ts t0) where
  start := fun B E h => h.start
  ends := fun t x y hb hs B E h => h.ends t x y (hb B E h) (sem_mono (fun t x y k => Es_le h t x y k) _ _ _ (fun _ q => q) y hs)
  calls := fun t x t' x' hb hs B E h => h.calls t x t' x' (hb B E h) (evt_mono (fun t x y k => Es_le h t x y k) _ _ _ _ (fun _ q => q) hs)
/-- what the walks that are meant come to -/
def Evs (ts : List Tm) (t0 : Nat) (e : Ev) : Prop := ∃ t x, Bs ts t0 t x ∧ evt ts (Es ts t0) (bod ts t) (one x) e
def TBad (ts : List Tm) (t0 : Nat) : Prop := Evs ts t0 .bad ∨ ∃ y, y ≠ 0 ∧ Es ts t0 t0 0 y
/-- a closed pair that is sound is the truth -/
theorem truth_of {ts : List Tm} {t0 : Nat} {B : Nat → Nat → Prop} {E : En} (h : Closed ts t0 B E) (hB : ∀ t x, B t x → Bs ts t0 t x) (hE : ∀ t x y, B t x → E t x y → Es ts t0 t x y) (e : Ev) (he : Evs ts t0 e) : ∃ t x, B t x ∧ evt ts E (bod ts t) (one x) e := by
  obtain ⟨t, x, h1, h2⟩ := he
  exact ⟨t, x, h1 B E h, evt_mono (fun t x y k => Es_le h t x y k) _ _ _ _ (fun _ q => q) h2⟩
theorem sem_none (ts : List Tm) (E : En) (b : Nds) : ∀ (S : Cs), (∀ z, ¬ S z) → ∀ y, ¬ sem ts E b S y := by
  induction b with
  | nil => intro S h y k; exact h y k
  | cons k a nm th el tw r iht ihe ih =>
    intro S h y q
    refine ih _ (fun z hz => ?_) y q
    unfold psem at hz
    split at hz
    · obtain ⟨x, a, _⟩ := hz; exact h x a
    · split at hz
      · exact h z hz
      · split at hz
        · rcases hz with hz | hz
          · exact iht S h z hz
          · split at hz
            · exact ihe S h z hz
            · exact h z hz
        · split at hz
          · exact h z (hz S (fun _ q => q) (fun w hw => absurd hw (iht S h w)))
          · obtain ⟨x, a, _⟩ := hz; exact h x a
end Go.Proofs.Ytffkejkgkgfnhab
namespace Go.Proofs.Ytffkejkgkgfnhab
open Go.RowKit
set_option linter.unusedVariables false
def pT (b : Int) : List Int := if b = 60 then [38, 108, 116, 59] else if b = 62 then [38, 103, 116, 59] else if b = 38 then [38, 97, 109, 112, 59] else [b]
def pV (b : Int) : List Int := if b = 34 then [38, 113, 117, 111, 116, 59] else pT b
def hx (ten n : Int) : Int := if n < 10 then 48 + n else ten + (n - 10)
def sfL (b : Int) : Bool := wdB b || decide (b = 45 ∨ b = 95 ∨ b = 46 ∨ b = 126 ∨ b = 47)
def sfQ (b : Int) : Bool := wdB b || decide (b = 32 ∨ b = 45 ∨ b = 95 ∨ b = 46 ∨ b = 44 ∨ b = 58 ∨ b = 47)
def pL (b : Int) : List Int := if sfL b then [b] else [37, hx 65 (b / 16), hx 65 (b % 16)]
def pQ (b : Int) : List Int := if sfQ b then [b] else [92, 120, hx 97 (b / 16), hx 97 (b % 16)]
def pc (c b : Int) : List Int := if c = 15 ∨ c = 16 then pV b else if c = 17 ∨ c = 18 then pL b else if c = 19 ∨ c = 21 then pQ b else pT b
theorem fin_str {a : ByteArray} {l : List Int} (h : a = strOfNums l) : Ending.returned (.string a) = .returned (.string (strOfNums l)) := by rw [h]
theorem cv (w : World) (ns : List Int) (k : Nat) (hk : ns.length = k) : Sem.run Try.prog (convert 54 9 (.slice (some ⟨w.heap.size, 0, none⟩) k k)) (w.alloc (.cells (ns.map (Value.int .u8)).toArray 5)) = .ok (.string (strOfNums ns)) (w.alloc (.cells (ns.map (Value.int .u8)).toArray 5)) := by
  refine run_convert_bytes_arg _ 54 5 Try.underlying54 Try.underlying5 w.heap.size 0 k k ns hk (fun i hi => ?_) 9 Try.underlying9
  have : i < ns.length := by omega
  simp [List.getD, this]
theorem cv1 (w : World) (x : Int) : Sem.run Try.prog (convert 54 9 (.slice (some ⟨w.heap.size, 0, none⟩) 1 1)) (w.alloc (.cells #[.int .u8 x] 5)) = .ok (.string (strOfNums [x])) (w.alloc (.cells #[.int .u8 x] 5)) := cv w [x] 1 rfl
theorem cv3 (w : World) (x y z : Int) : Sem.run Try.prog (convert 54 9 (.slice (some ⟨w.heap.size, 0, none⟩) 3 3)) (w.alloc (.cells #[.int .u8 x, .int .u8 y, .int .u8 z] 5)) = .ok (.string (strOfNums [x, y, z])) (w.alloc (.cells #[.int .u8 x, .int .u8 y, .int .u8 z] 5)) := cv w [x, y, z] 3 rfl
theorem cv4 (w : World) (x y z u : Int) : Sem.run Try.prog (convert 54 9 (.slice (some ⟨w.heap.size, 0, none⟩) 4 4)) (w.alloc (.cells #[.int .u8 x, .int .u8 y, .int .u8 z, .int .u8 u] 5)) = .ok (.string (strOfNums [x, y, z, u])) (w.alloc (.cells #[.int .u8 x, .int .u8 y, .int .u8 z, .int .u8 u] 5)) := cv w [x, y, z, u] 4 rfl
set_option maxHeartbeats 400000 in
theorem c79 (n t : Int) (w : World) (h0 : 0 ≤ n) (h1 : n ≤ 15) (h2 : 0 ≤ t) (h3 : t ≤ 200) :
    Calls Try.prog 74 #[.int .u8 n, .int .u8 t] w fun e w' => e = .returned (.int .u8 (hx t n)) ∧ w' = w := by
  go_enter Try.func74, Try.ntmps74
  go_wp2
  all_goals go_ret
  all_goals refine ⟨ret_int ?_, rfl⟩
  all_goals grind [hx]
set_option maxRecDepth 100000 in
set_option maxHeartbeats 1000000 in
theorem c55 (b : Int) (w : World) (h0 : 0 ≤ b) (h1 : b ≤ 255) :
    Calls Try.prog 50 #[.int .u8 b] w fun e w' => e = .returned (.string (strOfNums (pT b))) ∧ Below w.heap.size w w' := by
  have k1 := cv1
  go_enter Try.func50, Try.ntmps50
  go_wp2
  all_goals go_ret
  all_goals refine ⟨fin_str ?_, ?_⟩
  all_goals first | exact Below.refl _ _ | exact (Below.refl _ _).alloc (Nat.le_refl _) _ | skip
  all_goals (unfold pT; (repeat' split) <;> first | rfl | (exfalso; grind (splits := 40) [pT]))
set_option maxRecDepth 100000 in
set_option maxHeartbeats 1000000 in
theorem c52 (b : Int) (w : World) (h0 : 0 ≤ b) (h1 : b ≤ 255) :
    Calls Try.prog 47 #[.int .u8 b] w fun e w' => e = .returned (.string (strOfNums (pV b))) ∧ Below w.heap.size w w' := by
  by_cases h : b = 34
  · subst h
    go_enter Try.func47, Try.ntmps47
    go_wp2
    go_ret
    exact ⟨rfl, Below.refl _ _⟩
  · have e : pV b = pT b := by simp [pV, h]
    rw [e]
    clear e
    go_enter Try.func47, Try.ntmps47
    go_wp2_with (go_at_call 50; refine (c55 _ _ (by omega) (by omega)).mono ?_; rintro e w' ⟨rfl, hb⟩)
    go_ret
    exact ⟨rfl, hb⟩
set_option maxRecDepth 100000 in
set_option maxHeartbeats 1000000 in
theorem c53 (b : Int) (w : World) (h0 : 0 ≤ b) (h1 : b ≤ 255) :
    Calls Try.prog 48 #[.int .u8 b] w fun e w' => e = .returned (.string (strOfNums (pL b))) ∧ Below w.heap.size w w' := by
  have k1 := cv1
  have k3 := cv3
  go_enter Try.func48, Try.ntmps48
  go_wp2_with (first | (go_at_call 73; refine (c74 _ _ (by omega) (by omega)).mono ?_; rintro e w' ⟨rfl, rfl⟩) | (go_at_call 74; refine (c79 _ _ _ (by omega) (by omega) (by omega) (by omega)).mono ?_; rintro e w' ⟨rfl, rfl⟩))
  all_goals go_ret
  all_goals refine ⟨fin_str ?_, ?_⟩
  all_goals first | exact Below.refl _ _ | exact (Below.refl _ _).alloc (Nat.le_refl _) _ | skip
  all_goals (unfold pL; (repeat' split) <;> first | rfl | (exfalso; grind (splits := 40) [sfL]))
set_option maxRecDepth 100000 in
set_option maxHeartbeats 1000000 in
theorem c54 (b : Int) (w : World) (h0 : 0 ≤ b) (h1 : b ≤ 255) :
    Calls Try.prog 49 #[.int .u8 b] w fun e w' => e = .returned (.string (strOfNums (pQ b))) ∧ Below w.heap.size w w' := by
  have k1 := cv1
  have k4 := cv4
  go_enter Try.func49, Try.ntmps49
  go_wp2_with (first | (go_at_call 73; refine (c74 _ _ (by omega) (by omega)).mono ?_; rintro e w' ⟨rfl, rfl⟩) | (go_at_call 74; refine (c79 _ _ _ (by omega) (by omega) (by omega) (by omega)).mono ?_; rintro e w' ⟨rfl, rfl⟩))
  all_goals go_ret
  all_goals refine ⟨fin_str ?_, ?_⟩
  all_goals first | exact Below.refl _ _ | exact (Below.refl _ _).alloc (Nat.le_refl _) _ | skip
  all_goals (unfold pQ; (repeat' split) <;> first | rfl | (exfalso; grind (splits := 40) [sfQ]))
set_option maxRecDepth 100000 in
set_option maxHeartbeats 1000000 in
theorem c28 (c b : Int) (w : World) (h0 : 0 ≤ b) (h1 : b ≤ 255) :
    Calls Try.prog 35 #[.int .i64 c, .int .u8 b] w fun e w' => e = .returned (.string (strOfNums (pc c b))) ∧ Below w.heap.size w w' := by
  go_enter Try.func35, Try.ntmps35
  go_wp2_with (first | (go_at_call 47; refine (c52 _ _ (by omega) (by omega)).mono ?_; rintro e w' ⟨rfl, hb⟩) | (go_at_call 48; refine (c53 _ _ (by omega) (by omega)).mono ?_; rintro e w' ⟨rfl, hb⟩) | (go_at_call 49; refine (c54 _ _ (by omega) (by omega)).mono ?_; rintro e w' ⟨rfl, hb⟩) | (go_at_call 50; refine (c55 _ _ (by omega) (by omega)).mono ?_; rintro e w' ⟨rfl, hb⟩))
  all_goals go_ret
  all_goals refine ⟨fin_str ?_, by assumption⟩
  all_goals (congr 1; grind (splits := 40) [pc])
end Go.Proofs.Ytffkejkgkgfnhab
