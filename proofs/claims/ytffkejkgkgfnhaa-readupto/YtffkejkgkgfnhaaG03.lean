import Derived.Test.YtffkejkgkgfnhaaG02
import Derived.Deep.QuietTactic
import Derived.BigQuiet
import Derived.Lib.Strings
namespace Go.Proofs.Ytffkejkgkgfnhaa
open Go.RowKit
set_option linter.unusedVariables false
/-! ### The reader of entities and numbers -/
def eb (T : ByteArray) (i n : Nat) (nm : List UInt8) : Bool := decide (i + n ≤ T.size) && ((T.extract i (i + n)).toList == nm)
def enF4 (T : ByteArray) (i : Nat) : Int × Int := (0, 0)
def enF3 (T : ByteArray) (i : Nat) : Int × Int := if eb T i 6 [38, 113, 117, 111, 116, 59] then (34, 6) else enF4 T i
def enF2 (T : ByteArray) (i : Nat) : Int × Int := if eb T i 5 [38, 97, 109, 112, 59] then (38, 5) else enF3 T i
def enF1 (T : ByteArray) (i : Nat) : Int × Int := if eb T i 4 [38, 103, 116, 59] then (62, 4) else enF2 T i
def enF0 (T : ByteArray) (i : Nat) : Int × Int := if eb T i 4 [38, 108, 116, 59] then (60, 4) else enF1 T i
theorem enF0_out (T : ByteArray) (i : Nat) (h : ¬ i + 4 ≤ T.size) : enF0 T i = enF1 T i := by simp [enF0, eb, h]
theorem enF0_no (T : ByteArray) (i : Nat) (h : ((T.extract i (i + 4)).toList == [38, 108, 116, 59]) = false) : enF0 T i = enF1 T i := by simp only [enF0, eb, h, Bool.and_false, Bool.false_eq_true, if_false]
theorem enF0_yes (T : ByteArray) (i : Nat) (h0 : i + 4 ≤ T.size) (h : ((T.extract i (i + 4)).toList == [38, 108, 116, 59]) = true) : enF0 T i = (60, 4) := by simp only [enF0, eb, h, h0, decide_true, Bool.and_self, if_true]
theorem enF1_out (T : ByteArray) (i : Nat) (h : ¬ i + 4 ≤ T.size) : enF1 T i = enF2 T i := by simp [enF1, eb, h]
theorem enF1_no (T : ByteArray) (i : Nat) (h : ((T.extract i (i + 4)).toList == [38, 103, 116, 59]) = false) : enF1 T i = enF2 T i := by simp only [enF1, eb, h, Bool.and_false, Bool.false_eq_true, if_false]
theorem enF1_yes (T : ByteArray) (i : Nat) (h0 : i + 4 ≤ T.size) (h : ((T.extract i (i + 4)).toList == [38, 103, 116, 59]) = true) : enF1 T i = (62, 4) := by simp only [enF1, eb, h, h0, decide_true, Bool.and_self, if_true]
theorem enF2_out (T : ByteArray) (i : Nat) (h : ¬ i + 5 ≤ T.size) : enF2 T i = enF3 T i := by simp [enF2, eb, h]
theorem enF2_no (T : ByteArray) (i : Nat) (h : ((T.extract i (i + 5)).toList == [38, 97, 109, 112, 59]) = false) : enF2 T i = enF3 T i := by simp only [enF2, eb, h, Bool.and_false, Bool.false_eq_true, if_false]
theorem enF2_yes (T : ByteArray) (i : Nat) (h0 : i + 5 ≤ T.size) (h : ((T.extract i (i + 5)).toList == [38, 97, 109, 112, 59]) = true) : enF2 T i = (38, 5) := by simp only [enF2, eb, h, h0, decide_true, Bool.and_self, if_true]
theorem enF3_out (T : ByteArray) (i : Nat) (h : ¬ i + 6 ≤ T.size) : enF3 T i = enF4 T i := by simp [enF3, eb, h]
theorem enF3_no (T : ByteArray) (i : Nat) (h : ((T.extract i (i + 6)).toList == [38, 113, 117, 111, 116, 59]) = false) : enF3 T i = enF4 T i := by simp only [enF3, eb, h, Bool.and_false, Bool.false_eq_true, if_false]
theorem enF3_yes (T : ByteArray) (i : Nat) (h0 : i + 6 ≤ T.size) (h : ((T.extract i (i + 6)).toList == [38, 113, 117, 111, 116, 59]) = true) : enF3 T i = (34, 6) := by simp only [enF3, eb, h, h0, decide_true, Bool.and_self, if_true]
def enF (T : ByteArray) (i : Nat) : Nat → Int × Int
  | 0 => enF0 T i
  | 1 => enF1 T i
  | 2 => enF2 T i
  | 3 => enF3 T i
  | _ => enF4 T i
theorem cellN0 {w wr : World} (h : Below (w.heap.size + 2) ((w.alloc (.cells #[.string ⟨#[38, 108, 116, 59]⟩, .string ⟨#[38, 103, 116, 59]⟩, .string ⟨#[38, 97, 109, 112, 59]⟩, .string ⟨#[38, 113, 117, 111, 116, 59]⟩] 64)).alloc (.cells #[.int .u8 60, .int .u8 62, .int .u8 38, .int .u8 34] 65)) wr) : wr.cell? ⟨w.heap.size, 0, none⟩ = some (.string ⟨#[38, 108, 116, 59]⟩) :=
  (h.cell (p := ⟨w.heap.size, 0, none⟩) (by show w.heap.size < _; omega)).trans (by simp)
theorem cellM0 {w wr : World} (h : Below (w.heap.size + 2) ((w.alloc (.cells #[.string ⟨#[38, 108, 116, 59]⟩, .string ⟨#[38, 103, 116, 59]⟩, .string ⟨#[38, 97, 109, 112, 59]⟩, .string ⟨#[38, 113, 117, 111, 116, 59]⟩] 64)).alloc (.cells #[.int .u8 60, .int .u8 62, .int .u8 38, .int .u8 34] 65)) wr) : wr.cell? ⟨w.heap.size + 1, 0, none⟩ = some (.int .u8 60) :=
  (h.cell (p := ⟨w.heap.size + 1, 0, none⟩) (by show w.heap.size + 1 < _; omega)).trans (by simp)
theorem cellN1 {w wr : World} (h : Below (w.heap.size + 2) ((w.alloc (.cells #[.string ⟨#[38, 108, 116, 59]⟩, .string ⟨#[38, 103, 116, 59]⟩, .string ⟨#[38, 97, 109, 112, 59]⟩, .string ⟨#[38, 113, 117, 111, 116, 59]⟩] 64)).alloc (.cells #[.int .u8 60, .int .u8 62, .int .u8 38, .int .u8 34] 65)) wr) : wr.cell? ⟨w.heap.size, 1, none⟩ = some (.string ⟨#[38, 103, 116, 59]⟩) :=
  (h.cell (p := ⟨w.heap.size, 1, none⟩) (by show w.heap.size < _; omega)).trans (by simp)
theorem cellM1 {w wr : World} (h : Below (w.heap.size + 2) ((w.alloc (.cells #[.string ⟨#[38, 108, 116, 59]⟩, .string ⟨#[38, 103, 116, 59]⟩, .string ⟨#[38, 97, 109, 112, 59]⟩, .string ⟨#[38, 113, 117, 111, 116, 59]⟩] 64)).alloc (.cells #[.int .u8 60, .int .u8 62, .int .u8 38, .int .u8 34] 65)) wr) : wr.cell? ⟨w.heap.size + 1, 1, none⟩ = some (.int .u8 62) :=
  (h.cell (p := ⟨w.heap.size + 1, 1, none⟩) (by show w.heap.size + 1 < _; omega)).trans (by simp)
theorem cellN2 {w wr : World} (h : Below (w.heap.size + 2) ((w.alloc (.cells #[.string ⟨#[38, 108, 116, 59]⟩, .string ⟨#[38, 103, 116, 59]⟩, .string ⟨#[38, 97, 109, 112, 59]⟩, .string ⟨#[38, 113, 117, 111, 116, 59]⟩] 64)).alloc (.cells #[.int .u8 60, .int .u8 62, .int .u8 38, .int .u8 34] 65)) wr) : wr.cell? ⟨w.heap.size, 2, none⟩ = some (.string ⟨#[38, 97, 109, 112, 59]⟩) :=
  (h.cell (p := ⟨w.heap.size, 2, none⟩) (by show w.heap.size < _; omega)).trans (by simp)
theorem cellM2 {w wr : World} (h : Below (w.heap.size + 2) ((w.alloc (.cells #[.string ⟨#[38, 108, 116, 59]⟩, .string ⟨#[38, 103, 116, 59]⟩, .string ⟨#[38, 97, 109, 112, 59]⟩, .string ⟨#[38, 113, 117, 111, 116, 59]⟩] 64)).alloc (.cells #[.int .u8 60, .int .u8 62, .int .u8 38, .int .u8 34] 65)) wr) : wr.cell? ⟨w.heap.size + 1, 2, none⟩ = some (.int .u8 38) :=
  (h.cell (p := ⟨w.heap.size + 1, 2, none⟩) (by show w.heap.size + 1 < _; omega)).trans (by simp)
theorem cellN3 {w wr : World} (h : Below (w.heap.size + 2) ((w.alloc (.cells #[.string ⟨#[38, 108, 116, 59]⟩, .string ⟨#[38, 103, 116, 59]⟩, .string ⟨#[38, 97, 109, 112, 59]⟩, .string ⟨#[38, 113, 117, 111, 116, 59]⟩] 64)).alloc (.cells #[.int .u8 60, .int .u8 62, .int .u8 38, .int .u8 34] 65)) wr) : wr.cell? ⟨w.heap.size, 3, none⟩ = some (.string ⟨#[38, 113, 117, 111, 116, 59]⟩) :=
  (h.cell (p := ⟨w.heap.size, 3, none⟩) (by show w.heap.size < _; omega)).trans (by simp)
theorem cellM3 {w wr : World} (h : Below (w.heap.size + 2) ((w.alloc (.cells #[.string ⟨#[38, 108, 116, 59]⟩, .string ⟨#[38, 103, 116, 59]⟩, .string ⟨#[38, 97, 109, 112, 59]⟩, .string ⟨#[38, 113, 117, 111, 116, 59]⟩] 64)).alloc (.cells #[.int .u8 60, .int .u8 62, .int .u8 38, .int .u8 34] 65)) wr) : wr.cell? ⟨w.heap.size + 1, 3, none⟩ = some (.int .u8 34) :=
  (h.cell (p := ⟨w.heap.size + 1, 3, none⟩) (by show w.heap.size + 1 < _; omega)).trans (by simp)
theorem ret_ent {a b : Int} {x : Int × Int} (h : x = (a, b)) : Ending.returned (.tuple #[.int .u8 a, .int .i64 b]) = .returned (.tuple #[.int .u8 x.1, .int .i64 x.2]) := by rw [h]
set_option maxRecDepth 100000 in
set_option maxHeartbeats 2000000 in
theorem c18 (T : ByteArray) (i : Nat) (w : World) (hi : i < T.size) (hT : T.size ≤ 100000000) :
    Calls Try.prog 28 #[.string T, .int .i64 i] w fun e w' => e = .returned (.tuple #[.int .u8 (enF0 T i).1, .int .i64 (enF0 T i).2]) ∧ Below w.heap.size w w' := by
  generalize hE : enF0 T i = E
  have HE := hide hE
  clear hE
  go_enter Try.func28, Try.ntmps28
  go_wp2
  go_loopw [8, 9] (fun k n wr => ∃ q : Nat, q ≤ 4 ∧ k = .int .i64 q ∧ Hid (E = enF T i q) ∧ Below (w.heap.size + 2) ((w.alloc (.cells #[.string ⟨#[38, 108, 116, 59]⟩, .string ⟨#[38, 103, 116, 59]⟩, .string ⟨#[38, 97, 109, 112, 59]⟩, .string ⟨#[38, 113, 117, 111, 116, 59]⟩] 64)).alloc (.cells #[.int .u8 60, .int .u8 62, .int .u8 38, .int .u8 34] 65)) wr) (fun k _ _ => 4 - (intOf k).toNat)
  case atStart => exact ⟨0, by omega, rfl, HE.out.symm, Below.refl _ _⟩
  case round =>
    clear HE
    obtain ⟨q, hq, rfl, HE, hbel⟩ := hrel
    have hbw : Below w.heap.size w wr := (((Below.refl _ _).alloc (Nat.le_refl _) _).alloc (by simp) _).trans (hbel.mono (by omega))
    obtain rfl | rfl | rfl | rfl | rfl : q = 0 ∨ q = 1 ∨ q = 2 ∨ q = 3 ∨ q = 4 := by omega
    · have kN := cellN0 hbel
      have kM := cellM0 hbel
      have HQ := hide ((show E = enF0 T i from HE.out))
      clear HE
      by_cases g : i + 4 ≤ T.size
      · have g' : (i : Int) + 4 ≤ (T.size : Int) := by omega
        cases hB : ((T.extract i (i + 4)).toList == [38, 108, 116, 59])
        · have HF := hide (HQ.out.trans (enF0_no T i hB))
          clear HQ
          go_wp2
          go_quiet (fail)
          go_wp2
          go_roundw
          case rel => exact ⟨1, by omega, by go_num, HF, below_drewN hbel _⟩
          case measure => simp [intOf]
        · have HF := hide (HQ.out.trans (enF0_yes T i g hB))
          clear HQ
          go_wp2
          go_quiet (fail)
          go_wp2
          go_ret2
          exact ⟨ret_ent HF.out, below_drewN hbw _⟩
      · have g' : decide ((i : Int) + 4 ≤ (T.size : Int)) = false := by simp; omega
        have HF := hide (HQ.out.trans (enF0_out T i g))
        clear HQ g
        go_wp2
        go_quiet (fail)
        go_wp2
        go_roundw
        case rel => exact ⟨1, by omega, by go_num, HF, below_drewN hbel _⟩
        case measure => simp [intOf]
    · have kN := cellN1 hbel
      have kM := cellM1 hbel
      have HQ := hide ((show E = enF1 T i from HE.out))
      clear HE
      by_cases g : i + 4 ≤ T.size
      · have g' : (i : Int) + 4 ≤ (T.size : Int) := by omega
        cases hB : ((T.extract i (i + 4)).toList == [38, 103, 116, 59])
        · have HF := hide (HQ.out.trans (enF1_no T i hB))
          clear HQ
          go_wp2
          go_quiet (fail)
          go_wp2
          go_roundw
          case rel => exact ⟨2, by omega, by go_num, HF, below_drewN hbel _⟩
          case measure => simp [intOf]
        · have HF := hide (HQ.out.trans (enF1_yes T i g hB))
          clear HQ
          go_wp2
          go_quiet (fail)
          go_wp2
          go_ret2
          exact ⟨ret_ent HF.out, below_drewN hbw _⟩
      · have g' : decide ((i : Int) + 4 ≤ (T.size : Int)) = false := by simp; omega
        have HF := hide (HQ.out.trans (enF1_out T i g))
        clear HQ g
        go_wp2
        go_quiet (fail)
        go_wp2
        go_roundw
        case rel => exact ⟨2, by omega, by go_num, HF, below_drewN hbel _⟩
        case measure => simp [intOf]
    · have kN := cellN2 hbel
      have kM := cellM2 hbel
      have HQ := hide ((show E = enF2 T i from HE.out))
      clear HE
      by_cases g : i + 5 ≤ T.size
      · have g' : (i : Int) + 5 ≤ (T.size : Int) := by omega
        cases hB : ((T.extract i (i + 5)).toList == [38, 97, 109, 112, 59])
        · have HF := hide (HQ.out.trans (enF2_no T i hB))
          clear HQ
          go_wp2
          go_quiet (fail)
          go_wp2
          go_roundw
          case rel => exact ⟨3, by omega, by go_num, HF, below_drewN hbel _⟩
          case measure => simp [intOf]
        · have HF := hide (HQ.out.trans (enF2_yes T i g hB))
          clear HQ
          go_wp2
          go_quiet (fail)
          go_wp2
          go_ret2
          exact ⟨ret_ent HF.out, below_drewN hbw _⟩
      · have g' : decide ((i : Int) + 5 ≤ (T.size : Int)) = false := by simp; omega
        have HF := hide (HQ.out.trans (enF2_out T i g))
        clear HQ g
        go_wp2
        go_quiet (fail)
        go_wp2
        go_roundw
        case rel => exact ⟨3, by omega, by go_num, HF, below_drewN hbel _⟩
        case measure => simp [intOf]
    · have kN := cellN3 hbel
      have kM := cellM3 hbel
      have HQ := hide ((show E = enF3 T i from HE.out))
      clear HE
      by_cases g : i + 6 ≤ T.size
      · have g' : (i : Int) + 6 ≤ (T.size : Int) := by omega
        cases hB : ((T.extract i (i + 6)).toList == [38, 113, 117, 111, 116, 59])
        · have HF := hide (HQ.out.trans (enF3_no T i hB))
          clear HQ
          go_wp2
          go_quiet (fail)
          go_wp2
          go_roundw
          case rel => exact ⟨4, by omega, by go_num, HF, below_drewN hbel _⟩
          case measure => simp [intOf]
        · have HF := hide (HQ.out.trans (enF3_yes T i g hB))
          clear HQ
          go_wp2
          go_quiet (fail)
          go_wp2
          go_ret2
          exact ⟨ret_ent HF.out, below_drewN hbw _⟩
      · have g' : decide ((i : Int) + 6 ≤ (T.size : Int)) = false := by simp; omega
        have HF := hide (HQ.out.trans (enF3_out T i g))
        clear HQ g
        go_wp2
        go_quiet (fail)
        go_wp2
        go_roundw
        case rel => exact ⟨4, by omega, by go_num, HF, below_drewN hbel _⟩
        case measure => simp [intOf]
    · have HQ := hide (show E = enF4 T i from HE.out)
      clear HE
      go_wp2
      go_ret2
      exact ⟨ret_ent HQ.out, hbw⟩
end Go.Proofs.Ytffkejkgkgfnhaa
namespace Go.Proofs.Ytffkejkgkgfnhaa
open Go.RowKit
set_option linter.unusedVariables false
def dgv (b : Int) : Int := if 48 ≤ b ∧ b ≤ 57 then b - 48 else if 97 ≤ b ∧ b ≤ 102 then b - 97 + 10 else if 65 ≤ b ∧ b ≤ 70 then b - 65 + 10 else 16
set_option maxHeartbeats 400000 in
theorem c29 (b : Int) (w : World) (h0 : 0 ≤ b) (h1 : b ≤ 255) :
    Calls Try.prog 35 #[.int .u8 b] w fun e w' => e = .returned (.int .i64 (dgv b)) ∧ w' = w := by
  go_enter Try.func35, Try.ntmps35
  go_wp2
  all_goals go_ret
  all_goals refine ⟨ret_int ?_, rfl⟩
  all_goals grind (splits := 40) [dgv]
set_option maxHeartbeats 400000 in
theorem c19 (T : ByteArray) (i : Int) (k : Nat) (x y : Int) (w : World) (hi : i = k) (hk : k + 1 < T.size) (hT : T.size ≤ 100000000)
    (hx : Hid (dgv (T[k]'(by omega)).toNat = x)) (hy : Hid (dgv (T[k + 1]'hk).toNat = y)) (x0 : 0 ≤ x) (x1 : x < 16) (y0 : 0 ≤ y) (y1 : y < 16) :
    Calls Try.prog 29 #[.string T, .int .i64 i] w fun e w' => e = .returned (.tuple #[.int .u8 (x * 16 + y), .bool true]) ∧ w' = w := by
  subst hi
  have hk0 : k < T.size := by omega
  go_enter Try.func29, Try.ntmps29
  go_wp2_with fail
  refine (c29 _ _ (byte_ge _) (byte_le _)).mono ?_
  rintro e w' ⟨rfl, rfl⟩
  rw [hx.out]
  go_wp2_with fail
  refine (c29 _ _ (byte_ge _) (byte_le _)).mono ?_
  rintro e w' ⟨rfl, rfl⟩
  rw [hy.out]
  go_wp2
  go_ret2
  exact ⟨rfl, rfl⟩
end Go.Proofs.Ytffkejkgkgfnhaa
namespace Go.Proofs.Ytffkejkgkgfnhaa
open Go.RowKit
set_option linter.unusedVariables false
/-! ### Plain facts on places in a text -/
theorem idx_drop (T : ByteArray) (p k : Nat) (u : UInt8) (h : (T.data.toList.drop p)[k]? = some u) : ∃ hk : p + k < T.size, T[p + k]'hk = u := by
  rw [List.getElem?_drop] at h
  obtain ⟨hk, e⟩ := List.getElem?_eq_some_iff.1 h
  exact ⟨by simpa using hk, by rw [← e]; rfl⟩
theorem size_drop (T : ByteArray) (p : Nat) (Q Y : List UInt8) (hQ : 0 < Q.length) (h : T.data.toList.drop p = Q ++ Y) : p + Q.length ≤ T.size := by
  have := congrArg List.length h
  simp at this
  have e : T.data.size = T.size := rfl
  omega
theorem ext_drop (T : ByteArray) (p n : Nat) : (T.extract p (p + n)).toList = (T.data.toList.drop p).take n := by
  rw [Lib.extract_toList]; congr 1; omega
theorem mid_take (c : Int) (l : List UInt8) (j : Nat) (hj : j < l.length) : mid c (l.take (j + 1)) = mid c (l.take j) ++ pc c l[j].toNat := by
  rw [List.take_succ_eq_append_getElem hj, mid_snoc]
theorem mid_split (c : Int) (l : List UInt8) (j : Nat) (hj : j < l.length) : mid c l = mid c (l.take j) ++ (pc c l[j].toNat ++ mid c (l.drop (j + 1))) := by
  have e : l = l.take j ++ (l[j] :: l.drop (j + 1)) := by rw [List.getElem_cons_drop, List.take_append_drop]
  have e2 : ∀ a b, mid c (a ++ b) = mid c a ++ mid c b := by intro a b; simp [mid]
  have e3 : mid c (l[j] :: l.drop (j + 1)) = pc c l[j].toNat ++ mid c (l.drop (j + 1)) := by rw [mid, List.flatMap_cons]; rfl
  conv => lhs; rw [e, e2, e3]
theorem view (c : Int) (l : List UInt8) (T : ByteArray) (hT : T.data.toList = bts (mid c l)) (j : Nat) (hj : j < l.length) :
    T.data.toList.drop (mid c (l.take j)).length = bts (pc c l[j].toNat) ++ bts (mid c (l.drop (j + 1))) := by
  have e1 : (mid c (l.take j)).length = (bts (mid c (l.take j))).length := by simp [bts]
  rw [hT, mid_split c l j hj, bts_append, e1, List.drop_left, bts_append]
theorem pc_posR (c b : Int) : 0 < (pc c b).length := by
  unfold pc pV pL pQ pT; (repeat' split) <;> simp
theorem bts_len (l : List Int) : (bts l).length = l.length := by simp [bts]
theorem eb_yes (T : ByteArray) (p n : Nat) (nm : List UInt8) (h0 : p + n ≤ T.size) (h : (T.data.toList.drop p).take n = nm) : eb T p n nm = true := by
  unfold eb; rw [ext_drop, h]; simp [h0]
theorem eb_no (T : ByteArray) (p n : Nat) (nm : List UInt8) (h : (T.data.toList.drop p).take n ≠ nm) : eb T p n nm = false := by
  unfold eb; rw [ext_drop]; simp [h]
theorem ent60 (T : ByteArray) (p : Nat) (Y : List UInt8) (h : T.data.toList.drop p = bts [38, 108, 116, 59] ++ Y) : enF0 T p = (60, 4) := by
  have hs := size_drop T p (bts [38, 108, 116, 59]) Y (by decide) h
  rw [enF0, if_pos (eb_yes T p 4 _ (by simpa [bts] using hs) (by rw [h]; rfl))]
theorem ent62 (T : ByteArray) (p : Nat) (Y : List UInt8) (h : T.data.toList.drop p = bts [38, 103, 116, 59] ++ Y) : enF0 T p = (62, 4) := by
  have hs := size_drop T p (bts [38, 103, 116, 59]) Y (by decide) h
  rw [enF0, if_neg (by rw [eb_no T p 4 _ (by rw [h]; simp [bts])]; decide), enF1, if_pos (eb_yes T p 4 _ (by simpa [bts] using hs) (by rw [h]; rfl))]
theorem ent38 (T : ByteArray) (p : Nat) (Y : List UInt8) (h : T.data.toList.drop p = bts [38, 97, 109, 112, 59] ++ Y) : enF0 T p = (38, 5) := by
  have hs := size_drop T p (bts [38, 97, 109, 112, 59]) Y (by decide) h
  rw [enF0, if_neg (by rw [eb_no T p 4 _ (by rw [h]; simp [bts])]; decide), enF1, if_neg (by rw [eb_no T p 4 _ (by rw [h]; simp [bts])]; decide), enF2, if_pos (eb_yes T p 5 _ (by simpa [bts] using hs) (by rw [h]; rfl))]
theorem ent34 (T : ByteArray) (p : Nat) (Y : List UInt8) (h : T.data.toList.drop p = bts [38, 113, 117, 111, 116, 59] ++ Y) : enF0 T p = (34, 6) := by
  have hs := size_drop T p (bts [38, 113, 117, 111, 116, 59]) Y (by decide) h
  rw [enF0, if_neg (by rw [eb_no T p 4 _ (by rw [h]; simp [bts])]; decide), enF1, if_neg (by rw [eb_no T p 4 _ (by rw [h]; simp [bts])]; decide), enF2, if_neg (by rw [eb_no T p 5 _ (by rw [h]; simp [bts])]; decide), enF3, if_pos (eb_yes T p 6 _ (by simpa [bts] using hs) (by rw [h]; rfl))]
/-- the ways of a byte in Text and values -/
theorem text_ways (c b : Int) (hc : c = 0 ∨ c = 15 ∨ c = 16) (T : ByteArray) (p : Nat) (Y : List UInt8) (h : T.data.toList.drop p = bts (pc c b) ++ Y) :
    (pc c b = [b] ∧ b ≠ 38) ∨ ((pc c b).head? = some 38 ∧ enF0 T p = (b, ((pc c b).length : Int))) := by
  have key : (pc c b = [b] ∧ b ≠ 38) ∨ (pc c b = [38, 108, 116, 59] ∧ b = 60) ∨ (pc c b = [38, 103, 116, 59] ∧ b = 62) ∨ (pc c b = [38, 97, 109, 112, 59] ∧ b = 38) ∨ (pc c b = [38, 113, 117, 111, 116, 59] ∧ b = 34) := by
    rcases hc with rfl | rfl | rfl <;> simp only [pc, pV, pT] <;> grind
  rcases key with k | ⟨k, rfl⟩ | ⟨k, rfl⟩ | ⟨k, rfl⟩ | ⟨k, rfl⟩
  · exact .inl k
  all_goals right; rw [k] at h ⊢; refine ⟨rfl, ?_⟩
  · exact ent60 T p Y h
  · exact ent62 T p Y h
  · exact ent38 T p Y h
  · exact ent34 T p Y h
theorem of_byte (u : UInt8) : UInt8.ofNat (u.toNat : Int).toNat = u := by simp
theorem nums_one (u : UInt8) : strOfNums [(u.toNat : Int)] = ⟨#[u]⟩ := by simp [strOfNums]
theorem out_step (l : List UInt8) (j : Nat) (hj : j < l.length) : (⟨(l.take j).toArray⟩ : ByteArray) ++ ⟨#[l[j]]⟩ = ⟨(l.take (j + 1)).toArray⟩ := by
  apply ByteArray.ext
  simp
end Go.Proofs.Ytffkejkgkgfnhaa
