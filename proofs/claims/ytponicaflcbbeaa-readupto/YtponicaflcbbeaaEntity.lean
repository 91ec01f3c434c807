import Derived.Test.YtponicaflcbbeaaEscape
import Derived.Deep.QuietTactic
import Derived.BigQuiet
namespace Go.Proofs.Ytponicaflcbbeaa
open Go.RowKit
set_option linter.unusedVariables false
/-! ### The reader of entities and numbers -/
def eb (T : ByteArray) (i n : Nat) (nm : List UInt8) : Bool := decide (i + n ≤ T.size) && ((T.extract i (i + n)).toList == nm)
def enF4 (T : ByteArray) (i : Nat) : Int × Int := (0, 0)
def enF3 (T : ByteArray) (i : Nat) : Int × Int := if eb T i 6 [38, 113, 117, 111, 116, 59] then (34, 6) else enF4 T i
def enF2 (T : ByteArray) (i : Nat) : Int × Int := if eb T i 5 [38, 97, 109, 112, 59] then (38, 5) else enF3 T i
def enF1 (T : ByteArray) (i : Nat) : Int × Int := if eb T i 4 [38, 103, 116, 59] then (62, 4) else enF2 T i
def enF0 (T : ByteArray) (i : Nat) : Int × Int := if eb T i 4 [38, 108, 116, 59] then (60, 4) else enF1 T i
theorem enF0_out (T : ByteArray) (i : Nat) (h : ¬ i + 4 ≤ T.size) : enF0 T i = enF1 T i := by simp [enF0, eb, h]
theorem enF0_no (T : ByteArray) (i : Nat) (h : ((T.extract i (i + 4)).toList == [38, 108, 116, 59]) = false) : enF0 T i = enF1 T i := by simp only [enF0, eb, h, Bool.and_false, Bool.false_eq_true, if_false]
theorem enF0_yes (T : ByteArray) (i : Nat) (h0 : i + 4 ≤ T.size) (h : ((T.extract i (i + 4)).toList == [38, 108, 116, 59]) = true) : enF0 T i = (60, 4) := by simp only [enF0, eb, h, h0, decide_true, Bool.and_self, if_true]
theorem enF1_out (T : ByteArray) (i : Nat) (h : ¬ i + 4 ≤ T.size) : enF1 T i = enF2 T i := by simp [enF1, eb, h]
theorem enF1_no (T : ByteArray) (i : Nat) (h : ((T.extract i (i + 4)).toList == [38, 103, 116, 59]) = false) : enF1 T i = enF2 T i := by simp only [enF1, eb, h, Bool.and_false, Bool.false_eq_true, if_false]
theorem enF1_yes (T : ByteArray) (i : Nat) (h0 : i + 4 ≤ T.size) (h : ((T.extract i (i + 4)).toList == [38, 103, 116, 59]) = true) : enF1 T i = (62, 4) := by simp only [enF1, eb, h, h0, decide_true, Bool.and_self, if_true]
theorem enF2_out (T : ByteArray) (i : Nat) (h : ¬ i + 5 ≤ T.size) : enF2 T i = enF3 T i := by simp [enF2, eb, h]
theorem enF2_no (T : ByteArray) (i : Nat) (h : ((T.extract i (i + 5)).toList == [38, 97, 109, 112, 59]) = false) : enF2 T i = enF3 T i := by simp only [enF2, eb, h, Bool.and_false, Bool.false_eq_true, if_false]
theorem enF2_yes (T : ByteArray) (i : Nat) (h0 : i + 5 ≤ T.size) (h : ((T.extract i (i + 5)).toList == [38, 97, 109, 112, 59]) = true) : enF2 T i = (38, 5) := by simp only [enF2, eb, h, h0, decide_true, Bool.and_self, if_true]
theorem enF3_out (T : ByteArray) (i : Nat) (h : ¬ i + 6 ≤ T.size) : enF3 T i = enF4 T i := by simp [enF3, eb, h]
theorem enF3_no (T : ByteArray) (i : Nat) (h : ((T.extract i (i + 6)).toList == [38, 113, 117, 111, 116, 59]) = false) : enF3 T i = enF4 T i := by simp only [enF3, eb, h, Bool.and_false, Bool.false_eq_true, if_false]
theorem enF3_yes (T : ByteArray) (i : Nat) (h0 : i + 6 ≤ T.size) (h : ((T.extract i (i + 6)).toList == [38, 113, 117, 111, 116, 59]) = true) : enF3 T i = (34, 6) := by simp only [enF3, eb, h, h0, decide_true, Bool.and_self, if_true]
def enF (T : ByteArray) (i : Nat) : Nat → Int × Int
  | 0 => enF0 T i
  | 1 => enF1 T i
  | 2 => enF2 T i
  | 3 => enF3 T i
  | _ => enF4 T i
theorem cellN0 {w wr : World} (h : Below (w.heap.size + 2) ((w.alloc (.cells #[.string ⟨#[38, 108, 116, 59]⟩, .string ⟨#[38, 103, 116, 59]⟩, .string ⟨#[38, 97, 109, 112, 59]⟩, .string ⟨#[38, 113, 117, 111, 116, 59]⟩] 38)).alloc (.cells #[.int .u8 60, .int .u8 62, .int .u8 38, .int .u8 34] 39)) wr) : wr.cell? ⟨w.heap.size, 0, none⟩ = some (.string ⟨#[38, 108, 116, 59]⟩) :=
  (h.cell (p := ⟨w.heap.size, 0, none⟩) (by show w.heap.size < _; omega)).trans (by simp)
theorem cellM0 {w wr : World} (h : Below (w.heap.size + 2) ((w.alloc (.cells #[.string ⟨#[38, 108, 116, 59]⟩, .string ⟨#[38, 103, 116, 59]⟩, .string ⟨#[38, 97, 109, 112, 59]⟩, .string ⟨#[38, 113, 117, 111, 116, 59]⟩] 38)).alloc (.cells #[.int .u8 60, .int .u8 62, .int .u8 38, .int .u8 34] 39)) wr) : wr.cell? ⟨w.heap.size + 1, 0, none⟩ = some (.int .u8 60) :=
  (h.cell (p := ⟨w.heap.size + 1, 0, none⟩) (by show w.heap.size + 1 < _; omega)).trans (by simp)
theorem cellN1 {w wr : World} (h : Below (w.heap.size + 2) ((w.alloc (.cells #[.string ⟨#[38, 108, 116, 59]⟩, .string ⟨#[38, 103, 116, 59]⟩, .string ⟨#[38, 97, 109, 112, 59]⟩, .string ⟨#[38, 113, 117, 111, 116, 59]⟩] 38)).alloc (.cells #[.int .u8 60, .int .u8 62, .int .u8 38, .int .u8 34] 39)) wr) : wr.cell? ⟨w.heap.size, 1, none⟩ = some (.string ⟨#[38, 103, 116, 59]⟩) :=
  (h.cell (p := ⟨w.heap.size, 1, none⟩) (by show w.heap.size < _; omega)).trans (by simp)
theorem cellM1 {w wr : World} (h : Below (w.heap.size + 2) ((w.alloc (.cells #[.string ⟨#[38, 108, 116, 59]⟩, .string ⟨#[38, 103, 116, 59]⟩, .string ⟨#[38, 97, 109, 112, 59]⟩, .string ⟨#[38, 113, 117, 111, 116, 59]⟩] 38)).alloc (.cells #[.int .u8 60, .int .u8 62, .int .u8 38, .int .u8 34] 39)) wr) : wr.cell? ⟨w.heap.size + 1, 1, none⟩ = some (.int .u8 62) :=
  (h.cell (p := ⟨w.heap.size + 1, 1, none⟩) (by show w.heap.size + 1 < _; omega)).trans (by simp)
theorem cellN2 {w wr : World} (h : Below (w.heap.size + 2) ((w.alloc (.cells #[.string ⟨#[38, 108, 116, 59]⟩, .string ⟨#[38, 103, 116, 59]⟩, .string ⟨#[38, 97, 109, 112, 59]⟩, .string ⟨#[38, 113, 117, 111, 116, 59]⟩] 38)).alloc (.cells #[.int .u8 60, .int .u8 62, .int .u8 38, .int .u8 34] 39)) wr) : wr.cell? ⟨w.heap.size, 2, none⟩ = some (.string ⟨#[38, 97, 109, 112, 59]⟩) :=
  (h.cell (p := ⟨w.heap.size, 2, none⟩) (by show w.heap.size < _; omega)).trans (by simp)
theorem cellM2 {w wr : World} (h : Below (w.heap.size + 2) ((w.alloc (.cells #[.string ⟨#[38, 108, 116, 59]⟩, .string ⟨#[38, 103, 116, 59]⟩, .string ⟨#[38, 97, 109, 112, 59]⟩, .string ⟨#[38, 113, 117, 111, 116, 59]⟩] 38)).alloc (.cells #[.int .u8 60, .int .u8 62, .int .u8 38, .int .u8 34] 39)) wr) : wr.cell? ⟨w.heap.size + 1, 2, none⟩ = some (.int .u8 38) :=
  (h.cell (p := ⟨w.heap.size + 1, 2, none⟩) (by show w.heap.size + 1 < _; omega)).trans (by simp)
theorem cellN3 {w wr : World} (h : Below (w.heap.size + 2) ((w.alloc (.cells #[.string ⟨#[38, 108, 116, 59]⟩, .string ⟨#[38, 103, 116, 59]⟩, .string ⟨#[38, 97, 109, 112, 59]⟩, .string ⟨#[38, 113, 117, 111, 116, 59]⟩] 38)).alloc (.cells #[.int .u8 60, .int .u8 62, .int .u8 38, .int .u8 34] 39)) wr) : wr.cell? ⟨w.heap.size, 3, none⟩ = some (.string ⟨#[38, 113, 117, 111, 116, 59]⟩) :=
  (h.cell (p := ⟨w.heap.size, 3, none⟩) (by show w.heap.size < _; omega)).trans (by simp)
theorem cellM3 {w wr : World} (h : Below (w.heap.size + 2) ((w.alloc (.cells #[.string ⟨#[38, 108, 116, 59]⟩, .string ⟨#[38, 103, 116, 59]⟩, .string ⟨#[38, 97, 109, 112, 59]⟩, .string ⟨#[38, 113, 117, 111, 116, 59]⟩] 38)).alloc (.cells #[.int .u8 60, .int .u8 62, .int .u8 38, .int .u8 34] 39)) wr) : wr.cell? ⟨w.heap.size + 1, 3, none⟩ = some (.int .u8 34) :=
  (h.cell (p := ⟨w.heap.size + 1, 3, none⟩) (by show w.heap.size + 1 < _; omega)).trans (by simp)
theorem ret_ent {a b : Int} {x : Int × Int} (h : x = (a, b)) : Ending.returned (.tuple #[.int .u8 a, .int .i64 b]) = .returned (.tuple #[.int .u8 x.1, .int .i64 x.2]) := by rw [h]
set_option maxRecDepth 100000 in
set_option maxHeartbeats 2000000 in
theorem c18 (T : ByteArray) (i : Nat) (w : World) (hi : i < T.size) (hT : T.size ≤ 100000000) :
    Calls Try.prog 12 #[.string T, .int .i64 i] w fun e w' => e = .returned (.tuple #[.int .u8 (enF0 T i).1, .int .i64 (enF0 T i).2]) ∧ Below w.heap.size w w' := by
  generalize hE : enF0 T i = E
  have HE := hide hE
  clear hE
  go_enter Try.func12, Try.ntmps12
  go_wp2
  go_loopw [8, 9] (fun k n wr => ∃ q : Nat, q ≤ 4 ∧ k = .int .i64 q ∧ Hid (E = enF T i q) ∧ Below (w.heap.size + 2) ((w.alloc (.cells #[.string ⟨#[38, 108, 116, 59]⟩, .string ⟨#[38, 103, 116, 59]⟩, .string ⟨#[38, 97, 109, 112, 59]⟩, .string ⟨#[38, 113, 117, 111, 116, 59]⟩] 38)).alloc (.cells #[.int .u8 60, .int .u8 62, .int .u8 38, .int .u8 34] 39)) wr) (fun k _ _ => 4 - (intOf k).toNat)
  case atStart => exact ⟨0, by omega, rfl, HE.out.symm, Below.refl _ _⟩
  case round =>
    clear HE
    obtain ⟨q, hq, rfl, HE, hbel⟩ := hrel
    have hbw : Below w.heap.size w wr := (((Below.refl _ _).alloc (Nat.le_refl _) _).alloc (by simp) _).trans (hbel.mono (by omega))
    obtain rfl | rfl | rfl | rfl | rfl : q = 0 ∨ q = 1 ∨ q = 2 ∨ q = 3 ∨ q = 4 := by omega
    · have kN := cellN0 hbel
      have kM := cellM0 hbel
      have HQ := hide ((show E = enF0 T i from HE.out))
      clear HE
      by_cases g : i + 4 ≤ T.size
      · have g' : (i : Int) + 4 ≤ (T.size : Int) := by omega
        cases hB : ((T.extract i (i + 4)).toList == [38, 108, 116, 59])
        · have HF := hide (HQ.out.trans (enF0_no T i hB))
          clear HQ
          go_wp2
          go_quiet (fail)
          go_wp2
          go_roundw
          case rel => exact ⟨1, by omega, by go_num, HF, below_drewN hbel _⟩
          case measure => simp [intOf]
        · have HF := hide (HQ.out.trans (enF0_yes T i g hB))
          clear HQ
          go_wp2
          go_quiet (fail)
          go_wp2
          go_ret2
          exact ⟨ret_ent HF.out, below_drewN hbw _⟩
      · have g' : decide ((i : Int) + 4 ≤ (T.size : Int)) = false := by simp; omega
        have HF := hide (HQ.out.trans (enF0_out T i g))
        clear HQ g
        go_wp2
        go_quiet (fail)
        go_wp2
        go_roundw
        case rel => exact ⟨1, by omega, by go_num, HF, below_drewN hbel _⟩
        case measure => simp [intOf]
    · have kN := cellN1 hbel
      have kM := cellM1 hbel
      have HQ := hide ((show E = enF1 T i from HE.out))
      clear HE
      by_cases g : i + 4 ≤ T.size
      · have g' : (i : Int) + 4 ≤ (T.size : Int) := by omega
        cases hB : ((T.extract i (i + 4)).toList == [38, 103, 116, 59])
        · have HF := hide (HQ.out.trans (enF1_no T i hB))
          clear HQ
          go_wp2
          go_quiet (fail)
          go_wp2
          go_roundw
          case rel => exact ⟨2, by omega, by go_num, HF, below_drewN hbel _⟩
          case measure => simp [intOf]
        · have HF := hide (HQ.out.trans (enF1_yes T i g hB))
          clear HQ
          go_wp2
          go_quiet (fail)
          go_wp2
          go_ret2
          exact ⟨ret_ent HF.out, below_drewN hbw _⟩
      · have g' : decide ((i : Int) + 4 ≤ (T.size : Int)) = false := by simp; omega
        have HF := hide (HQ.out.trans (enF1_out T i g))
        clear HQ g
        go_wp2
        go_quiet (fail)
        go_wp2
        go_roundw
        case rel => exact ⟨2, by omega, by go_num, HF, below_drewN hbel _⟩
        case measure => simp [intOf]
    · have kN := cellN2 hbel
      have kM := cellM2 hbel
      have HQ := hide ((show E = enF2 T i from HE.out))
      clear HE
      by_cases g : i + 5 ≤ T.size
      · have g' : (i : Int) + 5 ≤ (T.size : Int) := by omega
        cases hB : ((T.extract i (i + 5)).toList == [38, 97, 109, 112, 59])
        · have HF := hide (HQ.out.trans (enF2_no T i hB))
          clear HQ
          go_wp2
          go_quiet (fail)
          go_wp2
          go_roundw
          case rel => exact ⟨3, by omega, by go_num, HF, below_drewN hbel _⟩
          case measure => simp [intOf]
        · have HF := hide (HQ.out.trans (enF2_yes T i g hB))
          clear HQ
          go_wp2
          go_quiet (fail)
          go_wp2
          go_ret2
          exact ⟨ret_ent HF.out, below_drewN hbw _⟩
      · have g' : decide ((i : Int) + 5 ≤ (T.size : Int)) = false := by simp; omega
        have HF := hide (HQ.out.trans (enF2_out T i g))
        clear HQ g
        go_wp2
        go_quiet (fail)
        go_wp2
        go_roundw
        case rel => exact ⟨3, by omega, by go_num, HF, below_drewN hbel _⟩
        case measure => simp [intOf]
    · have kN := cellN3 hbel
      have kM := cellM3 hbel
      have HQ := hide ((show E = enF3 T i from HE.out))
      clear HE
      by_cases g : i + 6 ≤ T.size
      · have g' : (i : Int) + 6 ≤ (T.size : Int) := by omega
        cases hB : ((T.extract i (i + 6)).toList == [38, 113, 117, 111, 116, 59])
        · have HF := hide (HQ.out.trans (enF3_no T i hB))
          clear HQ
          go_wp2
          go_quiet (fail)
          go_wp2
          go_roundw
          case rel => exact ⟨4, by omega, by go_num, HF, below_drewN hbel _⟩
          case measure => simp [intOf]
        · have HF := hide (HQ.out.trans (enF3_yes T i g hB))
          clear HQ
          go_wp2
          go_quiet (fail)
          go_wp2
          go_ret2
          exact ⟨ret_ent HF.out, below_drewN hbw _⟩
      · have g' : decide ((i : Int) + 6 ≤ (T.size : Int)) = false := by simp; omega
        have HF := hide (HQ.out.trans (enF3_out T i g))
        clear HQ g
        go_wp2
        go_quiet (fail)
        go_wp2
        go_roundw
        case rel => exact ⟨4, by omega, by go_num, HF, below_drewN hbel _⟩
        case measure => simp [intOf]
    · have HQ := hide (show E = enF4 T i from HE.out)
      clear HE
      go_wp2
      go_ret2
      exact ⟨ret_ent HQ.out, hbw⟩
end Go.Proofs.Ytponicaflcbbeaa
