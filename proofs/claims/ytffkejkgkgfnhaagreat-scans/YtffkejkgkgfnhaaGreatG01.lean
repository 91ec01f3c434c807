import Derived.Test.YtffkejkgkgfnhaaGreatRows
import Derived.WalkKit
import Derived.ProofKit
import Derived.OpenShut
import Derived.ShutString
import Derived.ChangeOld
import Derived.Deep.Slices
import Derived.Test.YtffkejkgkgfnhaaGreatProg
import Derived.WalkSpells
import Derived.WalkLawsBesides
namespace Go.Proofs.YtffkejkgkgfnhaaGreat
open Go.ChangeShapes Go.WideShapes Go.ChangeAt Go.RowKit Go.Deep
set_option linter.unusedVariables false
theorem five {α : Type} (l : List α) (h : l.length = 5) : ∃ a b c d e, l = [a, b, c, d, e] := by
  match l, h with
  | [a, b, c, d, e], _ => exact ⟨a, b, c, d, e, rfl⟩
theorem cells42 : Tryz.prog.cellsOf 33 = 5 := by kernel_rfl
theorem cells3 : Tryz.prog.cellsOf 3 = 1 := by kernel_rfl
theorem cells9 : Tryz.prog.cellsOf 9 = 1 := by kernel_rfl
theorem open_op {H : Type} {enc : TypeId × Value → H} {w : World} {base : Nat} {spare : Nat → Bool} {held : Bool} {fuel : Nat} {cs : List Value} {x : DataW H × List MemPlace}
    (h : DataW.trod enc Tryz.prog w base spare held fuel 33 cs = some x) :
    ∃ (k n : Int) (s t : ByteArray) (d : Value) (dd : DataW H), cs = [.int .i64 k, .int .i64 n, .string s, .string t, d] ∧ s.size ≤ maxLen ∧ t.size ≤ maxLen ∧
      x.1 = .agg [.lit (.int .i64 k), .lit (.int .i64 n), .lit (.string s.data.toList), .lit (.string t.data.toList), dd] := by
  obtain ⟨xs, m, _, rfl, hl, hlen, hf⟩ := DataW.trod_struct Tryz.underlying33 h
  rw [cells42] at hl
  obtain ⟨c0, c1, c2, c3, c4, rfl⟩ := five cs hl
  obtain ⟨x0, x1, x2, x3, x4, rfl⟩ := five xs hlen
  have f0 : DataW.trod enc Tryz.prog w base spare held m 3 (([c0, c1, c2, c3, c4].drop 0).take (Tryz.prog.cellsOf 3)) = some x0 := hf 0 _ rfl
  have f1 : DataW.trod enc Tryz.prog w base spare held m 3 (([c0, c1, c2, c3, c4].drop 1).take (Tryz.prog.cellsOf 3)) = some x1 := hf 1 _ rfl
  have f2 : DataW.trod enc Tryz.prog w base spare held m 9 (([c0, c1, c2, c3, c4].drop 2).take (Tryz.prog.cellsOf 9)) = some x2 := hf 2 _ rfl
  have f3 : DataW.trod enc Tryz.prog w base spare held m 9 (([c0, c1, c2, c3, c4].drop 3).take (Tryz.prog.cellsOf 9)) = some x3 := hf 3 _ rfl
  rw [cells3] at f0 f1
  rw [cells9] at f2 f3
  obtain ⟨k, e0, rfl, _⟩ := DataW.trod_int Tryz.underlying3 f0
  obtain ⟨n, e1, rfl, _⟩ := DataW.trod_int Tryz.underlying3 f1
  obtain ⟨s, e2, rfl, hs⟩ := DataW.trod_string Tryz.underlying9 f2
  obtain ⟨t, e3, rfl, ht⟩ := DataW.trod_string Tryz.underlying9 f3
  simp at e0 e1 e2 e3
  subst e0 e1 e2 e3
  exact ⟨k, n, s, t, c4, x4.1, rfl, hs, ht, rfl⟩
/-- WHAT THE WALK IS TOLD OF A SCRIPT: it is empty, or its steps lie in five cells each. -/
def IsOps (w : World) (a : Option Addr) (len : Nat) (Q : Int → ByteArray → ByteArray → Prop) : Prop :=
  len = 0 ∨ ∃ (b off : Nat) (Kd Nn : Nat → Int) (Ss Ts : Nat → ByteArray) (Ds : Nat → Value), a = some ⟨b, off, none⟩ ∧ b < w.heap.size ∧
    (∀ i, i < len → w.cell? ⟨b, off + i * 5, none⟩ = some (.int .i64 (Kd i))) ∧
    (∀ i, i < len → w.cell? ⟨b, off + i * 5 + 1, none⟩ = some (.int .i64 (Nn i))) ∧
    (∀ i, i < len → w.cell? ⟨b, off + i * 5 + 2, none⟩ = some (.string (Ss i))) ∧
    (∀ i, i < len → w.cell? ⟨b, off + i * 5 + 3, none⟩ = some (.string (Ts i))) ∧
    (∀ i, i < len → w.cell? ⟨b, off + i * 5 + 4, none⟩ = some (Ds i)) ∧ (∀ i, i < len → Q (Nn i) (Ss i) (Ts i))
theorem at_cells {w : World} {b off i : Nat} {cs : List Value} (h : ∀ j, j < 5 → w.cell? ((Addr.add ⟨b, off, none⟩ (i * 5)).add j) = cs[j]?) : ∀ j, j < 5 → w.cell? ⟨b, off + i * 5 + j, none⟩ = cs[j]? := by
  intro j hj
  rw [← h j hj, add_add]
  by_cases e : i * 5 + j = 0
  · have e1 : i * 5 = 0 := by omega
    have e2 : j = 0 := by omega
    simp [Addr.add, e1, e2]
  · rw [Addr.add, if_neg e, Nat.add_assoc]
theorem open_ops {H : Type} {enc : TypeId × Value → H} {w : World} {fuel len cap : Nat} {a : Option Addr} {x : DataW H × List MemPlace}
    (h : DataW.trod enc Tryz.prog w 0 (fun _ => true) true fuel 22 [.slice a len cap] = some x) :
    len ≤ maxLen ∧ IsOps w a len (fun n s t => s.size ≤ maxLen ∧ t.size ≤ maxLen ∧ ∃ (k : Int) (dd : DataW H) (elems spare : List (DataW H)), x.1 = .slice elems spare ∧ (.agg [.lit (.int .i64 k), .lit (.int .i64 n), .lit (.string s.data.toList), .lit (.string t.data.toList), dd]) ∈ elems) := by
  rcases open_slice Tryz.underlying22 h with ⟨hcs, _⟩ | ⟨a', len', cap', m, n, D, Pl, hcs, _, hl, hm, hmm, hx, hall⟩
  · simp at hcs
    obtain ⟨rfl, rfl, rfl⟩ := hcs
    exact ⟨by unfold maxLen; omega, .inl rfl⟩
  · simp at hcs
    obtain ⟨rfl, rfl, rfl⟩ := hcs
    refine ⟨by omega, ?_⟩
    by_cases h0 : len = 0
    · exact .inl h0
    right
    simp at hmm
    subst hmm
    rw [cells42] at hall
    have hop : ∀ i, i < len → ∃ q : Int × Int × ByteArray × ByteArray × Value, (∀ j, j < 5 → w.cell? ((a'.add (i * 5)).add j) = [Value.int .i64 q.1, .int .i64 q.2.1, .string q.2.2.1, .string q.2.2.2.1, q.2.2.2.2][j]?) ∧ q.2.2.1.size ≤ maxLen ∧ q.2.2.2.1.size ≤ maxLen ∧
        ∃ dd : DataW H, D i = .agg [.lit (.int .i64 q.1), .lit (.int .i64 q.2.1), .lit (.string q.2.2.1.data.toList), .lit (.string q.2.2.2.1.data.toList), dd] := by
      intro i hi
      obtain ⟨cs', hc, ht⟩ := hall i (by omega)
      obtain ⟨k, n, s, t, d, dd, rfl, hs, hts, hd⟩ := open_op ht
      exact ⟨(k, n, s, t, d), (World.cells?_some hc).2.2, hs, hts, dd, hd⟩
    obtain ⟨f, hf⟩ := choose_lt hop
    obtain ⟨b, off, spot⟩ := a'
    have hspot : spot = none := by
      have := (hf 0 (by omega)).1 0 (by omega)
      simp [Addr.add] at this
      simpa using World.cell?_spot this
    subst hspot
    have hb : b < w.heap.size := by
      have := (hall 0 (by omega))
      obtain ⟨cs', hc, _⟩ := this
      have := World.cells?_block hc (by omega)
      simpa [Addr.add] using this
    have hcc := fun i (hi : i < len) => at_cells (hf i hi).1
    refine ⟨b, off, fun i => (f i).1, fun i => (f i).2.1, fun i => (f i).2.2.1, fun i => (f i).2.2.2.1, fun i => (f i).2.2.2.2, rfl, hb, ?_, ?_, ?_, ?_, ?_, ?_⟩
    · intro i hi; exact hcc i hi 0 (by omega)
    · intro i hi; exact hcc i hi 1 (by omega)
    · intro i hi; exact hcc i hi 2 (by omega)
    · intro i hi; exact hcc i hi 3 (by omega)
    · intro i hi; exact hcc i hi 4 (by omega)
    · intro i hi
      obtain ⟨_, h1, h2, dd, hd⟩ := hf i hi
      refine ⟨h1, h2, (f i).1, dd, _, _, by rw [hx], ?_⟩
      rw [← hd]
      exact List.mem_map.2 ⟨i, List.mem_range.2 hi, rfl⟩
end Go.Proofs.YtffkejkgkgfnhaaGreat
/-
  THE PLAIN MATHEMATICS OF CONTEXTS: no Go, no program.
-/
namespace Go.Proofs.YtffkejkgkgfnhaaGreat
set_option linter.unusedVariables false
def ltB (b : Int) : Bool := decide ((97 ≤ b ∧ b ≤ 122) ∨ (65 ≤ b ∧ b ≤ 90))
def dgB (b : Int) : Bool := decide (48 ≤ b ∧ b ≤ 57)
def wdB (b : Int) : Bool := ltB b || dgB b
def spB (b : Int) : Bool := decide (b = 32 ∨ b = 10)
/-- behind a word -/
def bw (b : Int) : Int := if spB b then 5 else if b = 62 then 0 else -1
def tg (x b : Int) : Int :=
  if x = 3 then (if wdB b then 3 else if spB b then 5 else if b = 62 then 0 else -1)
  else if x = 5 then (if spB b then 5 else if b = 62 then 0 else if b = 117 then 9 else if ltB b then 7 else -1)
  else if x = 7 then (if wdB b then 7 else if b = 61 then 11 else if spB b then 5 else if b = 62 then 0 else -1)
  else if x = 9 then (if wdB b then 7 else if b = 61 then 13 else if spB b then 5 else if b = 62 then 0 else -1)
  else if x = 11 then (if b = 34 then 15 else -1)
  else if x = 13 then (if b = 34 then 17 else -1)
  else if x = 15 then (if b = 34 then 5 else 15)
  else if x = 17 then (if b = 34 then 5 else 17)
  else -1
def up (y : Int) : Int := if y = 0 then 19 else if y = -1 then -1 else y + 1
def ws (y : Int) : Int := if y = 0 then 19 else if y = 5 then 6 else if y = 7 then 8 else if y = 9 then 10 else if y = 11 then 12 else if y = 13 then 14 else if y = 15 then 16 else if y = 17 then 18 else y
def wo (y : Int) : Int := if y = 6 then 5 else if y = 8 then 7 else if y = 10 then 9 else if y = 12 then 11 else if y = 14 then 13 else if y = 16 then 15 else if y = 18 then 17 else y
def ba (b q : Int) : Int := if wdB b then 7 else if b = 61 then q else bw b
def be (b q : Int) : Int := if b = 34 then q else -1
def cd (c b : Int) : Int :=
  if c = 19 then (if b = 39 then 21 else if b = 60 then 20 else 19)
  else if c = 20 then (if b = 47 then 2 else if b = 39 then 21 else if b = 60 then 20 else 19)
  else if c = 21 then (if b = 39 then 19 else if b = 92 then 22 else if b = 60 then 23 else if b = 10 then -1 else 21)
  else if c = 22 then (if b = 60 then 23 else if b = 10 then -1 else 21)
  else if c = 23 then (if b = 47 then 2 else if b = 39 then 19 else if b = 92 then 22 else if b = 60 then 23 else if b = 10 then -1 else 21)
  else -1
/-- what a byte makes of a context, by the document's table -/
def stp (c b : Int) : Int :=
  if c = 0 then (if b = 60 then 1 else 0)
  else if c = 1 then (if b = 115 then 4 else if ltB b then 3 else if b = 47 then 2 else if b = 60 then 1 else 0)
  else if c = 2 then (if b = 62 then 0 else 2)
  else if c = 4 then (if wdB b then 3 else up (tg 3 b))
  else if c = 3 ∨ c = 5 ∨ c = 7 ∨ c = 9 ∨ c = 11 ∨ c = 13 ∨ c = 15 ∨ c = 17 then tg c b
  else if c = 6 ∨ c = 8 ∨ c = 10 ∨ c = 12 ∨ c = 14 ∨ c = 16 ∨ c = 18 then up (tg (c - 1) b)
  else cd c b
theorem stp_lost (b : Int) : stp (-1) b = -1 := by simp [stp, cd]
theorem up_range (y : Int) (h : -1 ≤ y ∧ y ≤ 17) : -1 ≤ up y ∧ up y ≤ 23 := by unfold up; repeat' split <;> omega
theorem tg_range (x b : Int) : -1 ≤ tg x b ∧ tg x b ≤ 17 := by unfold tg; repeat' split <;> omega
theorem cd_range (x b : Int) : -1 ≤ cd x b ∧ cd x b ≤ 23 := by unfold cd; repeat' split <;> omega
theorem stp_range (c b : Int) : -1 ≤ stp c b ∧ stp c b ≤ 23 := by
  have h1 := tg_range c b
  have h2 := up_range _ (tg_range (c - 1) b)
  have h3 := up_range _ (tg_range 3 b)
  have h4 := cd_range c b
  unfold stp
  repeat' split <;> omega
/-- behind a list of bytes; what is lost stays lost -/
def scl (c : Int) : List UInt8 → Int
  | [] => c
  | b :: r => scl (stp c b.toNat) r
theorem scl_append (c : Int) (a b : List UInt8) : scl c (a ++ b) = scl (scl c a) b := by
  induction a generalizing c with
  | nil => rfl
  | cons x r ih => simp [scl, ih]
theorem scl_lost (l : List UInt8) : scl (-1) l = -1 := by
  induction l with
  | nil => rfl
  | cons x r ih => simp [scl, stp_lost, ih]
theorem scl_range (c : Int) (l : List UInt8) (h : -1 ≤ c ∧ c ≤ 23) : -1 ≤ scl c l ∧ scl c l ≤ 23 := by
  induction l generalizing c with
  | nil => exact h
  | cons x r ih => exact ih _ (stp_range _ _)
def scn (c : Int) (l : List UInt8) : Int := if c < 0 ∨ 24 ≤ c then -1 else scl c l
theorem scn_range (c : Int) (l : List UInt8) : -1 ≤ scn c l ∧ scn c l ≤ 23 := by
  unfold scn
  split
  · omega
  · exact scl_range _ _ (by omega)
theorem stp_name (b : Int) : tg 3 b = stp 3 b := by grind (splits := 40) [stp]
theorem stp_nameS (b : Int) : ws (tg 3 b) = stp 4 b := by grind (splits := 40) [stp, ws, up, tg, spB]
theorem stp_code (c b : Int) (h : c = 19 ∨ c = 20 ∨ c = 21 ∨ c = 22 ∨ c = 23) : cd c b = stp c b := by grind (splits := 40) [stp]
theorem wo_ne (c : Int) (h : c ≠ 3) : wo c ≠ 3 := by grind (splits := 40) [wo]
theorem stp_plain (c b : Int) (h : 5 ≤ c ∧ c ≤ 18) (e : wo c = c) : tg (wo c) b = stp c b := by grind (splits := 40) [stp, wo]
theorem tg_vals (x b : Int) : tg x b = -1 ∨ tg x b = 0 ∨ tg x b = 3 ∨ tg x b = 5 ∨ tg x b = 7 ∨ tg x b = 9 ∨ tg x b = 11 ∨ tg x b = 13 ∨ tg x b = 15 ∨ tg x b = 17 := by
  grind (splits := 40) [tg]
theorem tg_3 (x b : Int) (h : x ≠ 3) : tg x b ≠ 3 := by unfold tg; repeat' split <;> omega
theorem ws_up (y : Int) (h : y = -1 ∨ y = 0 ∨ y = 5 ∨ y = 7 ∨ y = 9 ∨ y = 11 ∨ y = 13 ∨ y = 15 ∨ y = 17) : ws y = up y := by
  rcases h with rfl | rfl | rfl | rfl | rfl | rfl | rfl | rfl | rfl <;> rfl
theorem wo_S (c : Int) (h : 5 ≤ c ∧ c ≤ 18) (e : wo c ≠ c) : (c = 6 ∨ c = 8 ∨ c = 10 ∨ c = 12 ∨ c = 14 ∨ c = 16 ∨ c = 18) ∧ wo c = c - 1 := by grind (splits := 40) [wo]
theorem stp_S (c b : Int) (h : 5 ≤ c ∧ c ≤ 18) (e : wo c ≠ c) : ws (tg (wo c) b) = stp c b := by
  obtain ⟨h1, h2⟩ := wo_S c h e
  have h3 := tg_vals (wo c) b
  have h4 := tg_3 (wo c) b (wo_ne c (by omega))
  rw [ws_up _ (by omega), h2]
  rcases h1 with rfl | rfl | rfl | rfl | rfl | rfl | rfl <;> simp [stp]
end Go.Proofs.YtffkejkgkgfnhaaGreat
namespace Go.Proofs.YtffkejkgkgfnhaaGreat
open Go.RowKit
set_option linter.unusedVariables false
theorem ret_int {k : IntKind} {a b : Int} (h : a = b) : Ending.returned (.int k a) = .returned (.int k b) := by rw [h]
theorem ret_bool {a b : Bool} (h : a = b) : Ending.returned (.bool a) = .returned (.bool b) := by rw [h]
set_option maxHeartbeats 400000 in
theorem c73 (b : Int) (w : World) (h0 : 0 ≤ b) (h1 : b ≤ 255) :
    Calls Tryz.prog 86 #[.int .u8 b] w fun e w' => e = .returned (.bool (ltB b)) ∧ w' = w := by
  go_enter Tryz.func86, Tryz.ntmps86
  go_wp2
  all_goals go_ret
  all_goals refine ⟨ret_bool ?_, rfl⟩
  all_goals grind (splits := 40) [ltB]
set_option maxHeartbeats 400000 in
theorem c74 (b : Int) (w : World) (h0 : 0 ≤ b) (h1 : b ≤ 255) :
    Calls Tryz.prog 87 #[.int .u8 b] w fun e w' => e = .returned (.bool (wdB b)) ∧ w' = w := by
  go_enter Tryz.func87, Tryz.ntmps87
  go_wp2_with (first | (go_at_call 86; refine (c73 _ _ (by omega) (by omega)).mono ?_; rintro e w' ⟨rfl, rfl⟩))
  all_goals go_ret
  all_goals refine ⟨ret_bool ?_, rfl⟩
  all_goals grind (splits := 40) [wdB, dgB]
set_option maxHeartbeats 400000 in
theorem c89 (b : Int) (w : World) (h0 : 0 ≤ b) (h1 : b ≤ 255) :
    Calls Tryz.prog 111 #[.int .u8 b] w fun e w' => e = .returned (.bool (spB b)) ∧ w' = w := by
  go_enter Tryz.func111, Tryz.ntmps111
  go_wp2
  all_goals go_ret
  all_goals refine ⟨ret_bool ?_, rfl⟩
  all_goals grind (splits := 40) [spB]
set_option maxHeartbeats 400000 in
theorem c75 (b : Int) (w : World) (h0 : 0 ≤ b) (h1 : b ≤ 255) :
    Calls Tryz.prog 88 #[.int .u8 b] w fun e w' => e = .returned (.int .i64 (bw b)) ∧ w' = w := by
  go_enter Tryz.func88, Tryz.ntmps88
  go_wp2_with (first | (go_at_call 111; refine (c89 _ _ (by omega) (by omega)).mono ?_; rintro e w' ⟨rfl, rfl⟩))
  all_goals go_ret
  all_goals refine ⟨ret_int ?_, rfl⟩
  all_goals grind (splits := 40) [bw]
set_option maxHeartbeats 400000 in
theorem c43 (b : Int) (w : World) (h0 : 0 ≤ b) (h1 : b ≤ 255) :
    Calls Tryz.prog 59 #[.int .u8 b] w fun e w' => e = .returned (.int .i64 (stp 0 b)) ∧ w' = w := by
  go_enter Tryz.func59, Tryz.ntmps59
  go_wp2
  all_goals go_ret
  all_goals refine ⟨ret_int ?_, rfl⟩
  all_goals grind (splits := 40) [stp]
set_option maxHeartbeats 400000 in
theorem c44 (b : Int) (w : World) (h0 : 0 ≤ b) (h1 : b ≤ 255) :
    Calls Tryz.prog 60 #[.int .u8 b] w fun e w' => e = .returned (.int .i64 (stp 1 b)) ∧ w' = w := by
  go_enter Tryz.func60, Tryz.ntmps60
  go_wp2_with (first | (go_at_call 86; refine (c73 _ _ (by omega) (by omega)).mono ?_; rintro e w' ⟨rfl, rfl⟩))
  all_goals go_ret
  all_goals refine ⟨ret_int ?_, rfl⟩
  all_goals grind (splits := 40) [stp, ltB]
set_option maxHeartbeats 400000 in
theorem c45 (b : Int) (w : World) (h0 : 0 ≤ b) (h1 : b ≤ 255) :
    Calls Tryz.prog 61 #[.int .u8 b] w fun e w' => e = .returned (.int .i64 (stp 2 b)) ∧ w' = w := by
  go_enter Tryz.func61, Tryz.ntmps61
  go_wp2
  all_goals go_ret
  all_goals refine ⟨ret_int ?_, rfl⟩
  all_goals grind (splits := 40) [stp]
set_option maxHeartbeats 400000 in
theorem c46 (b : Int) (w : World) (h0 : 0 ≤ b) (h1 : b ≤ 255) :
    Calls Tryz.prog 62 #[.int .u8 b] w fun e w' => e = .returned (.int .i64 (tg 3 b)) ∧ w' = w := by
  go_enter Tryz.func62, Tryz.ntmps62
  go_wp2_with (first | (go_at_call 87; refine (c74 _ _ (by omega) (by omega)).mono ?_; rintro e w' ⟨rfl, rfl⟩) | (go_at_call 88; refine (c75 _ _ (by omega) (by omega)).mono ?_; rintro e w' ⟨rfl, rfl⟩))
  all_goals go_ret
  all_goals refine ⟨ret_int ?_, rfl⟩
  all_goals grind (splits := 40) [tg, bw]
set_option maxHeartbeats 400000 in
theorem c47 (y : Int) (w : World)  :
    Calls Tryz.prog 63 #[.int .i64 y] w fun e w' => e = .returned (.int .i64 (ws y)) ∧ w' = w := by
  go_enter Tryz.func63, Tryz.ntmps63
  go_wp2
  all_goals go_ret
  all_goals refine ⟨ret_int ?_, rfl⟩
  all_goals grind (splits := 40) [ws]
set_option maxHeartbeats 400000 in
theorem c50 (y : Int) (w : World)  :
    Calls Tryz.prog 66 #[.int .i64 y] w fun e w' => e = .returned (.int .i64 (wo y)) ∧ w' = w := by
  go_enter Tryz.func66, Tryz.ntmps66
  go_wp2
  all_goals go_ret
  all_goals refine ⟨ret_int ?_, rfl⟩
  all_goals grind (splits := 40) [wo]
set_option maxHeartbeats 400000 in
theorem c48 (c b : Int) (w : World) (h0 : 0 ≤ b) (h1 : b ≤ 255) (hc : c = 19 ∨ c = 20) :
    Calls Tryz.prog 64 #[.int .i64 c, .int .u8 b] w fun e w' => e = .returned (.int .i64 (cd c b)) ∧ w' = w := by
  go_enter Tryz.func64, Tryz.ntmps64
  go_wp2
  all_goals go_ret
  all_goals refine ⟨ret_int ?_, rfl⟩
  all_goals grind (splits := 40) [cd]
set_option maxHeartbeats 400000 in
theorem c49 (c b : Int) (w : World) (h0 : 0 ≤ b) (h1 : b ≤ 255) (hc : c = 21 ∨ c = 22 ∨ c = 23) :
    Calls Tryz.prog 65 #[.int .i64 c, .int .u8 b] w fun e w' => e = .returned (.int .i64 (cd c b)) ∧ w' = w := by
  go_enter Tryz.func65, Tryz.ntmps65
  go_wp2
  all_goals go_ret
  all_goals refine ⟨ret_int ?_, rfl⟩
  all_goals grind (splits := 40) [cd]
set_option maxHeartbeats 400000 in
theorem c76 (b : Int) (w : World) (h0 : 0 ≤ b) (h1 : b ≤ 255) :
    Calls Tryz.prog 89 #[.int .u8 b] w fun e w' => e = .returned (.int .i64 (tg 5 b)) ∧ w' = w := by
  go_enter Tryz.func89, Tryz.ntmps89
  go_wp2_with (first | (go_at_call 86; refine (c73 _ _ (by omega) (by omega)).mono ?_; rintro e w' ⟨rfl, rfl⟩) | (go_at_call 88; refine (c75 _ _ (by omega) (by omega)).mono ?_; rintro e w' ⟨rfl, rfl⟩))
  all_goals go_ret
  all_goals refine ⟨ret_int ?_, rfl⟩
  all_goals grind (splits := 40) [tg, bw, spB, ltB]
set_option maxHeartbeats 400000 in
theorem c77 (b q : Int) (w : World) (h0 : 0 ≤ b) (h1 : b ≤ 255) :
    Calls Tryz.prog 90 #[.int .u8 b, .int .i64 q] w fun e w' => e = .returned (.int .i64 (ba b q)) ∧ w' = w := by
  go_enter Tryz.func90, Tryz.ntmps90
  go_wp2_with (first | (go_at_call 87; refine (c74 _ _ (by omega) (by omega)).mono ?_; rintro e w' ⟨rfl, rfl⟩) | (go_at_call 88; refine (c75 _ _ (by omega) (by omega)).mono ?_; rintro e w' ⟨rfl, rfl⟩))
  all_goals go_ret
  all_goals refine ⟨ret_int ?_, rfl⟩
  all_goals grind (splits := 40) [ba]
set_option maxHeartbeats 400000 in
theorem c78 (b q : Int) (w : World) (h0 : 0 ≤ b) (h1 : b ≤ 255) :
    Calls Tryz.prog 91 #[.int .u8 b, .int .i64 q] w fun e w' => e = .returned (.int .i64 (be b q)) ∧ w' = w := by
  go_enter Tryz.func91, Tryz.ntmps91
  go_wp2
  all_goals go_ret
  all_goals refine ⟨ret_int ?_, rfl⟩
  all_goals grind (splits := 40) [be]
set_option maxHeartbeats 400000 in
theorem c51 (c b : Int) (w : World) (h0 : 0 ≤ b) (h1 : b ≤ 255) (hc : c ≠ 3) :
    Calls Tryz.prog 67 #[.int .i64 c, .int .u8 b] w fun e w' => e = .returned (.int .i64 (tg c b)) ∧ w' = w := by
  go_enter Tryz.func67, Tryz.ntmps67
  go_wp2_with (first | (go_at_call 89; refine (c76 _ _ (by omega) (by omega)).mono ?_; rintro e w' ⟨rfl, rfl⟩) | (go_at_call 90; refine (c77 _ _ _ (by omega) (by omega)).mono ?_; rintro e w' ⟨rfl, rfl⟩) | (go_at_call 91; refine (c78 _ _ _ (by omega) (by omega)).mono ?_; rintro e w' ⟨rfl, rfl⟩))
  all_goals go_ret
  all_goals refine ⟨ret_int ?_, rfl⟩
  all_goals grind (splits := 40) [tg, ba, be, bw, wdB, ltB, dgB, spB]
set_option maxHeartbeats 1000000 in
theorem c26 (c b : Int) (w : World) (h0 : 0 ≤ b) (h1 : b ≤ 255) (hc0 : 0 ≤ c) (hc1 : c ≤ 23) :
    Calls Tryz.prog 38 #[.int .i64 c, .int .u8 b] w fun e w' => e = .returned (.int .i64 (stp c b)) ∧ w' = w := by
  go_enter Tryz.func38, Tryz.ntmps38
  go_wp2_with (first | (go_at_call 59; refine (c43 _ _ (by omega) (by omega)).mono ?_; rintro e w' ⟨rfl, rfl⟩) | (go_at_call 60; refine (c44 _ _ (by omega) (by omega)).mono ?_; rintro e w' ⟨rfl, rfl⟩) | (go_at_call 61; refine (c45 _ _ (by omega) (by omega)).mono ?_; rintro e w' ⟨rfl, rfl⟩) | (go_at_call 62; refine (c46 _ _ (by omega) (by omega)).mono ?_; rintro e w' ⟨rfl, rfl⟩) | (go_at_call 63; refine (c47 _ _).mono ?_; rintro e w' ⟨rfl, rfl⟩) | (go_at_call 66; refine (c50 _ _).mono ?_; rintro e w' ⟨rfl, rfl⟩) | (go_at_call 64; refine (c48 _ _ _ (by omega) (by omega) (by grind)).mono ?_; rintro e w' ⟨rfl, rfl⟩) | (go_at_call 65; refine (c49 _ _ _ (by omega) (by omega) (by grind)).mono ?_; rintro e w' ⟨rfl, rfl⟩) | (go_at_call 67; refine (c51 _ _ _ (by omega) (by omega) (wo_ne _ (by grind))).mono ?_; rintro e w' ⟨rfl, rfl⟩))
  all_goals go_ret
  all_goals refine ⟨ret_int ?_, rfl⟩
  all_goals grind (splits := 40) [stp_name, stp_nameS, stp_code, stp_plain, stp_S]
end Go.Proofs.YtffkejkgkgfnhaaGreat
namespace Go.Proofs.YtffkejkgkgfnhaaGreat
open Go.RowKit
set_option linter.unusedVariables false
theorem hide {p : Prop} (h : p) : Hid p := h
theorem byte_le (u : UInt8) : (u.toNat : Int) ≤ 255 := by have := UInt8.toNat_lt u; omega
theorem byte_ge (u : UInt8) : (0 : Int) ≤ (u.toNat : Int) := by omega
theorem take_snoc (s : ByteArray) (k : Nat) (h : k < s.size) : s.data.toList.take (k + 1) = s.data.toList.take k ++ [s[k]] := by
  rw [List.take_succ_eq_append_getElem (by simpa using h)]; rfl
theorem scl_snoc (c : Int) (s : ByteArray) (k : Nat) (h : k < s.size) : scl c (s.data.toList.take (k + 1)) = stp (scl c (s.data.toList.take k)) s[k].toNat := by
  rw [take_snoc s k h, scl_append]; rfl
theorem scl_cut (c : Int) (l : List UInt8) (k : Nat) (h : scl c (l.take k) = -1) : scl c l = -1 := by
  rw [← List.take_append_drop k l, scl_append, h, scl_lost]
theorem scn_in (c : Int) (l : List UInt8) (h0 : 0 ≤ c) (h1 : c ≤ 23) : scn c l = scl c l := by unfold scn; rw [if_neg (by omega)]
theorem scn_out (c : Int) (l : List UInt8) (h : c < 0 ∨ 24 ≤ c) : scn c l = -1 := by unfold scn; rw [if_pos h]
set_option maxHeartbeats 1000000 in
theorem c16 (c : Int) (s : ByteArray) (w : World) (hs : s.size ≤ maxLen) :
    Calls Tryz.prog 21 #[.int .i64 c, .string s] w fun e w' => e = .returned (.int .i64 (scn c s.data.toList)) ∧ w' = w := by
  unfold maxLen at hs
  by_cases hc : c < 0 ∨ 24 ≤ c
  · rw [scn_out _ _ hc]
    go_enter Tryz.func21, Tryz.ntmps21
    go_wp2
    all_goals (go_ret; exact ⟨rfl, rfl⟩)
  · have hc0 : 0 ≤ c := by omega
    have hc1 : c ≤ 23 := by omega
    clear hc
    rw [scn_in _ _ hc0 hc1]
    go_enter Tryz.func21, Tryz.ntmps21
    go_wp2
    go_loop [0, 5] (fun x i => ∃ k : Nat, k ≤ s.size ∧ i = .int .i64 k ∧ x = .int .i64 (scl c (s.data.toList.take k))) (fun _ i => s.size - (intOf i).toNat)
    case atStart => exact ⟨0, Nat.zero_le _, rfl, rfl⟩
    case round =>
      obtain ⟨k, hk, rfl, rfl⟩ := hrel
      have hr := scl_range c (s.data.toList.take k) ⟨by omega, by omega⟩
      have Hcut := hide (scl_cut c s.data.toList k)
      have Hsn := hide (scl_snoc c s k)
      have Hall : Hid (k = s.size → scl c (s.data.toList.take k) = scl c s.data.toList) := by
        intro e; rw [List.take_of_length_le (by simp [e])]
      generalize hx : scl c (s.data.toList.take k) = x at *
      have Hx := hide hx
      clear hx
      by_cases hlt : k < s.size
      · by_cases hne : x = -1
        · have hq : (x != -1) = false := by simp [hne]
          go_wp2
          go_ret
          exact ⟨ret_int (Hcut.out hne).symm, rfl⟩
        · have hx0 : 0 ≤ x := by omega
          have hx1 : x ≤ 23 := by omega
          have hq : (x != -1) = true := by simp [hne]
          clear hne hr
          go_wp2_with (go_at_call 38; refine (c26 _ _ _ (byte_ge _) (byte_le _) (by omega) (by omega)).mono ?_; rintro e w' ⟨rfl, rfl⟩)
          go_round
          case rel => exact ⟨k + 1, by omega, by go_num, by rw [Hsn.out hlt]⟩
          case measure => simp [intOf]; omega
      · go_wp2
        go_ret
        exact ⟨ret_int (Hall.out (by omega)), rfl⟩
set_option maxHeartbeats 400000 in
theorem c10 (c : Int) (s : ByteArray) (w : World) (hs : s.size ≤ maxLen) :
    Calls Tryz.prog 13 #[.int .i64 c, .string s] w fun e w' => e = .returned (.int .i64 (scn c s.data.toList)) ∧ w' = w := by
  go_enter Tryz.func13, Tryz.ntmps13
  go_wp2_with (go_at_call 21; refine (c16 _ _ _ hs).mono ?_; rintro e w' ⟨rfl, rfl⟩)
  go_ret
  exact ⟨rfl, rfl⟩
end Go.Proofs.YtffkejkgkgfnhaaGreat
namespace Go.Proofs.YtffkejkgkgfnhaaGreat
open Go.RowKit
set_option linter.unusedVariables false
theorem rtag_lem (x b : Int) (h : x = 3 ∨ x = 5 ∨ x = 7 ∨ x = 9) : tg x b = if b = 62 then 0 else if spB b then 5 else if x = 3 ∧ wdB b then 3 else if x = 5 ∧ b = 117 then 9 else if (x = 7 ∨ x = 9) ∧ wdB b then 7 else if x = 7 ∧ b = 61 then 11 else if x = 9 ∧ b = 61 then 13 else if x = 5 ∧ ltB b then 7 else -1 := by
  rcases h with rfl | rfl | rfl | rfl <;> grind (splits := 40) [tg, wdB, ltB, dgB, spB]
set_option maxHeartbeats 400000 in
theorem c66 (b : Int) (w : World) (h0 : 0 ≤ b) (h1 : b ≤ 255) :
    Calls Tryz.prog 45 #[.int .u8 b] w fun e w' => e = .returned (.bool (ltB b)) ∧ w' = w := by
  go_enter Tryz.func45, Tryz.ntmps45
  go_wp2
  all_goals go_ret
  all_goals refine ⟨ret_bool ?_, rfl⟩
  all_goals grind (splits := 40) [ltB]
set_option maxHeartbeats 400000 in
theorem c67 (b : Int) (w : World) (h0 : 0 ≤ b) (h1 : b ≤ 255) :
    Calls Tryz.prog 46 #[.int .u8 b] w fun e w' => e = .returned (.bool (dgB b)) ∧ w' = w := by
  go_enter Tryz.func46, Tryz.ntmps46
  go_wp2
  all_goals go_ret
  all_goals refine ⟨ret_bool ?_, rfl⟩
  all_goals grind (splits := 40) [dgB]
set_option maxHeartbeats 400000 in
theorem c85 (b : Int) (w : World) (h0 : 0 ≤ b) (h1 : b ≤ 255) :
    Calls Tryz.prog 68 #[.int .u8 b] w fun e w' => e = .returned (.bool (spB b)) ∧ w' = w := by
  go_enter Tryz.func68, Tryz.ntmps68
  go_wp2
  all_goals go_ret
  all_goals refine ⟨ret_bool ?_, rfl⟩
  all_goals grind (splits := 40) [spB]
set_option maxHeartbeats 400000 in
theorem c62 (x b : Int) (w : World) (h0 : 0 ≤ b) (h1 : b ≤ 255) (hx : x = 0 ∨ x = 1 ∨ x = 2) :
    Calls Tryz.prog 39 #[.int .i64 x, .int .u8 b] w fun e w' => e = .returned (.int .i64 (stp x b)) ∧ w' = w := by
  go_enter Tryz.func39, Tryz.ntmps39
  go_wp2_with (first | (go_at_call 45; refine (c66 _ _ (by omega) (by omega)).mono ?_; rintro e w' ⟨rfl, rfl⟩))
  all_goals go_ret
  all_goals refine ⟨ret_int ?_, rfl⟩
  all_goals grind (splits := 40) [stp, ltB]
set_option maxHeartbeats 400000 in
theorem c63 (x b : Int) (w : World) (h0 : 0 ≤ b) (h1 : b ≤ 255) (hx : 19 ≤ x ∧ x ≤ 23) :
    Calls Tryz.prog 40 #[.int .i64 x, .int .u8 b] w fun e w' => e = .returned (.int .i64 (cd x b)) ∧ w' = w := by
  go_enter Tryz.func40, Tryz.ntmps40
  go_wp2
  all_goals go_ret
  all_goals refine ⟨ret_int ?_, rfl⟩
  all_goals grind (splits := 40) [cd]
set_option maxHeartbeats 1000000 in
theorem c65 (x b : Int) (w : World) (h0 : 0 ≤ b) (h1 : b ≤ 255) (hx : x = 3 ∨ x = 5 ∨ x = 7 ∨ x = 9 ∨ x = 11 ∨ x = 13 ∨ x = 15 ∨ x = 17) :
    Calls Tryz.prog 42 #[.int .i64 x, .int .u8 b] w fun e w' => e = .returned (.int .i64 (tg x b)) ∧ w' = w := by
  rcases hx with rfl | rfl | rfl | rfl | rfl | rfl | rfl | rfl
  all_goals
    go_enter Tryz.func42, Tryz.ntmps42
    go_wp2_with (first | (go_at_call 45; refine (c66 _ _ (by omega) (by omega)).mono ?_; rintro e w' ⟨rfl, rfl⟩) | (go_at_call 46; refine (c67 _ _ (by omega) (by omega)).mono ?_; rintro e w' ⟨rfl, rfl⟩) | (go_at_call 68; refine (c85 _ _ (by omega) (by omega)).mono ?_; rintro e w' ⟨rfl, rfl⟩))
    all_goals go_ret
    all_goals refine ⟨ret_int ?_, rfl⟩
    all_goals grind (splits := 60) [tg, wdB, ltB, dgB, spB]
end Go.Proofs.YtffkejkgkgfnhaaGreat
