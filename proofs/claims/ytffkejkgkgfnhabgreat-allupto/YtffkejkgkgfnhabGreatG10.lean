import Derived.Test.YtffkejkgkgfnhabGreatG09
import Derived.Test.YtffkejkgkgfnhabGreatG07
namespace Go.Proofs.YtffkejkgkgfnhabGreat
open Go.RowKit
set_option linter.unusedVariables false
theorem Flat.szle {s : ByteArray} {d p e : Nat} {a : Nds} {A : List Ak} (h : Flat s d a p A e) : a.sz + p ≤ e := by
  induction h with
  | nil d p => simp [Nds.sz]
  | text h _ ih => simp only [Nds.sz]; omega
  | @hole d p e r A h _ ih => have := act_next s p (by omega); simp only [Nds.sz]; omega
  | @call d p e r A h _ ih => have := act_next s p (by omega); simp only [Nds.sz]; omega
  | @loop d p e e1 th r A1 A hd h k1 h1 k2 ih1 ih => have := act_next s p (by omega); have := act_next s e1 (by omega); simp only [Nds.sz]; omega
  | @one d p e e1 th r A1 A hd h k1 h1 k2 ih1 ih => have := act_next s p (by omega); have := act_next s e1 (by omega); simp only [Nds.sz]; omega
  | @two d p e e1 e2 th el r A1 A2 A hd h k1 h1 k2 h2 k3 ih1 ih2 ih => have := act_next s p (by omega); have := act_next s e1 (by omega); have := act_next s e2 (by omega); simp only [Nds.sz]; omega
theorem TFlat.bodies {s : ByteArray} {ts : List Tm} {A : List Ak} {p : Nat} (h : TFlat s ts A p) : ∀ t ∈ ts, t.body.sz ≤ s.size := by
  induction h with
  | nil => intro t ht; cases ht
  | @snoc ts A B p e b h hl hk hb he ih =>
    intro t ht
    rcases List.mem_append.1 ht with ht | ht
    · exact ih t ht
    · simp at ht; subst ht
      have := hb.szle
      have := act_next s e (by omega)
      show b.sz ≤ _
      omega
def twF (ts : List Tm) : List Tm → Nat → Int
  | [], _ => -1
  | t :: r, i => if fndF t.name ts 0 < i then t.at' else twF ts r (i + 1)
def unF (ts : List Tm) : List Tm → Int
  | [] => -1
  | t :: r => if 0 ≤ unk ts t.body then unk ts t.body else unF ts r
theorem twF_at (ts us : List Tm) (i : Nat) (hi : i < us.length) : twF ts (us.drop i) i = if fndF us[i].name ts 0 < i then (us[i].at' : Int) else twF ts (us.drop (i + 1)) (i + 1) := by
  rw [List.drop_eq_getElem_cons hi]; rfl
theorem unF_at (ts us : List Tm) (i : Nat) (hi : i < us.length) : unF ts (us.drop i) = if 0 ≤ unk ts us[i].body then unk ts us[i].body else unF ts (us.drop (i + 1)) := by
  rw [List.drop_eq_getElem_cons hi]; rfl
def ReadOut (ts : List Tm) (a : Option Addr) (c : Nat) (e : Ending) : Prop :=
  (0 ≤ twF ts ts 0 ∧ e = .returned (.tuple #[.slice none 0 0, .int .i64 3, .int .i64 (twF ts ts 0)])) ∨
  (twF ts ts 0 = -1 ∧ 0 ≤ unF ts ts ∧ e = .returned (.tuple #[.slice none 0 0, .int .i64 4, .int .i64 (unF ts ts)])) ∨
  (twF ts ts 0 = -1 ∧ unF ts ts < 0 ∧ e = .returned (.tuple #[.slice a ts.length c, .int .i64 0, .int .i64 0]))
def ReadPost (s : ByteArray) (w : World) (e : Ending) (w' : World) : Prop :=
  (∃ wr : Nat, e = .returned (.tuple #[.slice none 0 0, .int .i64 2, .int .i64 wr]) ∧ Ends s init (.err wr)) ∨
  (∃ (a : Option Addr) (c : Nat) (ts : List Tm) (A : List Ak), TFlat s ts A s.size ∧ Ends s init (.fin A) ∧ ts.length ≤ 6 ∧ SlcX w' (rng w.heap.size w'.heap.size) 72 3 (.slice a ts.length c) ts.length (RowT w' (rng w.heap.size w'.heap.size) ts) ∧ ReadOut ts a c e)
set_option maxHeartbeats 400000 in
theorem c31long (s : ByteArray) (w : World) (hs : 400 < s.size) (hm : s.size ≤ maxLen) : Calls Tryz.prog 16 #[.string s] w fun e w' => e = .returned (.tuple #[.slice none 0 0, .int .i64 1, .int .i64 0]) ∧ w' = w := by
  go_enter Tryz.func16, Tryz.ntmps16
  go_wp2
  go_ret3
  exact ⟨rfl, rfl⟩
theorem slcX_drew {w w1 : World} {n : Nat} (h : w1 = w.drewN n) {B : Nat} {a : Option Addr} {c : Nat} {ts : List Tm} (k : SlcX w (rng B w.heap.size) 72 3 (.slice a ts.length c) ts.length (RowT w (rng B w.heap.size) ts)) :
    SlcX w1 (rng B w1.heap.size) 72 3 (.slice a ts.length c) ts.length (RowT w1 (rng B w1.heap.size) ts) := by
  subst h
  exact SlcX.mono (A' := rng B (w.drewN n).heap.size) k (fun _ _ => rfl) (fun _ h => ⟨h.1, h.2⟩) (fun xs => RowT.mono (w := w) (w' := w.drewN n) (A := rng B w.heap.size) (A' := rng B (w.drewN n).heap.size) (fun _ _ => rfl) (fun _ h => ⟨h.1, h.2⟩) ts xs)
set_option maxRecDepth 100000 in
set_option maxHeartbeats 4000000 in
theorem c31 (s : ByteArray) (w : World) (hs : s.size ≤ 400) : Calls Tryz.prog 16 #[.string s] w fun e w' => Below w.heap.size w w' ∧ ReadPost s w e w' := by
  have Hc := hidS (c59 s w (by omega))
  go_enter Tryz.func16, Tryz.ntmps16
  go_wp2_with fail
  refine Hc.out.mono ?_
  clear Hc
  rintro e w1 ⟨hb1, hor⟩
  rcases hor with ⟨er, rfl, hE⟩ | ⟨la, lc, ts, A, rfl, hT, hE, hl, hS⟩
  · have HE := hidS hE
    clear hE
    go_wp2
    go_ret3
    exact ⟨hb1, .inl ⟨er, rfl, HE.out⟩⟩
  · have HAT := hidS (tmAt hS)
    have HTF := hidS hT
    have HE := hidS hE
    have HS := hidS hS
    have Hf := hidS (fun nm => c60 w1 _ la lc ts nm hl HAT.out)
    have Hu := hidS (fun ns h1 h2 => c61 w1 _ la lc ts hl HAT.out (ns.sz + 1) ns h1 h2)
    have HB := hidS hT.bodies
    clear hT hE hS
    go_wp2
    go_loop [7, 8] (fun i _ => ∃ k : Nat, k ≤ ts.length ∧ i = .int .i64 k ∧ Hid (twF ts ts 0 = twF ts (ts.drop k) k)) (fun i _ => ts.length - (intOf i).toNat)
    case atStart => exact ⟨0, Nat.zero_le _, rfl, rfl⟩
    case round =>
      obtain ⟨k, hk, rfl, H⟩ := hrel
      by_cases hlt : k < ts.length
      · rcases HAT.out with h0 | ⟨g, hla, hat⟩
        · omega
        · obtain ⟨c0, c1, _⟩ := hat k hlt
          have HST := hidS (twF_at ts ts k hlt)
          subst hla
          clear hat
          have hfr := fndF_range ts[k].name ts 0
          by_cases hn : fndF ts[k].name ts 0 < k
          · have HF : Hid (twF ts ts 0 = ts[k].at') := by show _ = _; rw [H.out, HST.out, if_pos hn]
            clear HST H
            go_wp2_with fail
            refine (Hf.out _).mono ?_
            rintro e w' ⟨rfl, hw⟩
            obtain rfl := hw.symm
            go_wp2
            go_quiet (fail)
            go_wp2
            go_ret3
            refine ⟨below_drewN hb1 _, .inr ⟨_, lc, ts, A, HTF.out, HE.out, hl, slcX_drew rfl HS.out, .inl ⟨by rw [HF.out]; omega, by rw [HF.out]; rfl⟩⟩⟩
          · have HF : Hid (twF ts ts 0 = twF ts (ts.drop (k + 1)) (k + 1)) := by show _ = _; rw [H.out, HST.out, if_neg hn]
            clear HST H
            go_wp2_with fail
            refine (Hf.out _).mono ?_
            rintro e w' ⟨rfl, hw⟩
            obtain rfl := hw.symm
            go_wp2
            go_round
            case rel => exact ⟨k + 1, by omega, by go_num, HF.out⟩
            case measure => simp [intOf]; omega
      · have HTW : Hid (twF ts ts 0 = -1) := by show _ = _; rw [H.out, List.drop_eq_nil_of_le (by omega)]; rfl
        clear H
        go_wp2
        clear hlt hk
        go_loop [6, 9] (fun _ i => ∃ k : Nat, k ≤ ts.length ∧ i = .int .i64 k ∧ Hid (unF ts ts = unF ts (ts.drop k))) (fun _ i => ts.length - (intOf i).toNat)
        case atStart => exact ⟨0, Nat.zero_le _, rfl, rfl⟩
        case round =>
          obtain ⟨k, hk, rfl, H⟩ := hrel
          by_cases hlt : k < ts.length
          · rcases HAT.out with h0 | ⟨g, hla, hat⟩
            · omega
            · obtain ⟨c0, c1, ba, bn, bc, c2, hsb⟩ := hat k hlt
              have HST := hidS (unF_at ts ts k hlt)
              obtain ⟨hbn, _⟩ := ndAt hsb
              have Hc := hidS (Hu.out ts[k].body (by omega) (by have := HB.out ts[k] (List.getElem_mem hlt); omega) ba bc (by rw [hbn] at hsb; exact hsb))
              subst hla
              clear hat hsb c0 c1
              rw [hbn] at c2
              clear hbn
              generalize ts[k].body.len = bl at *
              generalize unk ts ts[k].body = U at *
              by_cases hu : 0 ≤ U
              · have HF : Hid (unF ts ts = U) := by show _ = _; rw [H.out, HST.out, if_pos hu]
                clear HST H
                go_wp2_with fail
                refine Hc.out.mono ?_
                rintro e w' ⟨rfl, hw⟩
                obtain rfl := hw.symm
                go_wp2
                go_ret3
                exact ⟨hb1, .inr ⟨_, lc, ts, A, HTF.out, HE.out, hl, HS.out, .inr (.inl ⟨HTW.out, by rw [HF.out]; exact hu, by rw [HF.out]; rfl⟩)⟩⟩
              · have HF : Hid (unF ts ts = unF ts (ts.drop (k + 1))) := by show _ = _; rw [H.out, HST.out, if_neg hu]
                clear HST H
                go_wp2_with fail
                refine Hc.out.mono ?_
                rintro e w' ⟨rfl, hw⟩
                obtain rfl := hw.symm
                go_wp2
                go_round
                case rel => exact ⟨k + 1, by omega, by go_num, HF.out⟩
                case measure => simp [intOf]; omega
          · have HUN : Hid (unF ts ts = -1) := by show _ = _; rw [H.out, List.drop_eq_nil_of_le (by omega)]; rfl
            go_wp2
            go_ret3
            exact ⟨hb1, .inr ⟨la, lc, ts, A, HTF.out, HE.out, hl, HS.out, .inr (.inr ⟨HTW.out, by rw [HUN.out]; omega, rfl⟩)⟩⟩
end Go.Proofs.YtffkejkgkgfnhabGreat
namespace Go.Proofs.YtffkejkgkgfnhabGreat
open Go.RowKit
set_option linter.unusedVariables false
theorem cv2d (w : World) (x y : Int) : Sem.run Tryz.prog (convert 76 9 (.slice (some ⟨w.heap.size, 0, none⟩) 2 2)) (w.alloc (.cells #[.int .u8 x, .int .u8 y] 5)).drew = .ok (.string (strOfNums [x, y])) (w.alloc (.cells #[.int .u8 x, .int .u8 y] 5)).drew := cv2 w.drew x y
set_option maxRecDepth 100000 in
set_option maxHeartbeats 400000 in
theorem c69 (b t : Int) (D : ByteArray) (w : World) (h0 : 0 ≤ b) (h1 : b ≤ 255) (hD : D.size = 16) (hdig : ∀ (n : Nat) (h : n < D.size), ((D[n]'h).toNat : Int) = hx t n) :
    Calls Tryz.prog 44 #[.int .u8 b, .string D] w fun e w' => e = .returned (.string (strOfNums [hx t (b / 16), hx t (b % 16)])) ∧ Below w.heap.size w w' := by
  have k2 := cv2d
  have q0 : 0 ≤ b / 16 := by omega
  have q1 : b / 16 < (D.size : Int) := by omega
  have q2 : 0 ≤ b % 16 := by omega
  have q3 : b % 16 < (D.size : Int) := by omega
  have p1 : (b / 16).toNat < D.size := by omega
  have p2 : (b % 16).toNat < D.size := by omega
  have e1 := hdig (b / 16).toNat p1
  have e2 := hdig (b % 16).toNat p2
  rw [Int.toNat_of_nonneg q0] at e1
  rw [Int.toNat_of_nonneg q2] at e2
  rw [← e1, ← e2]
  clear hdig e1 e2 hD
  go_enter Tryz.func44, Tryz.ntmps44
  go_wp2
  go_region
  go_wp2
  go_ret
  exact ⟨rfl, ((Below.refl _ _).alloc (Nat.le_refl _) _).drew⟩
set_option maxRecDepth 100000 in
set_option maxHeartbeats 400000 in
theorem c68f (b : Int) (w : World) (h0 : 0 ≤ b) (h1 : b ≤ 255) :
    Calls Tryz.prog 43 #[.int .u8 b, .bool false] w fun e w' => e = .returned (.string (strOfNums (pT b))) ∧ Below w.heap.size w w' := by
  have k1 := cv1
  go_enter Tryz.func43, Tryz.ntmps43
  go_wp2
  all_goals go_ret
  all_goals refine ⟨fin_str ?_, ?_⟩
  all_goals first | exact Below.refl _ _ | exact (Below.refl _ _).alloc (Nat.le_refl _) _ | skip
  all_goals (unfold pT; (repeat' split) <;> first | rfl | (subst_vars; rfl) | (exfalso; grind (splits := 40)))
set_option maxRecDepth 100000 in
set_option maxHeartbeats 400000 in
theorem c68t (b : Int) (w : World) (h0 : 0 ≤ b) (h1 : b ≤ 255) :
    Calls Tryz.prog 43 #[.int .u8 b, .bool true] w fun e w' => e = .returned (.string (strOfNums (pV b))) ∧ Below w.heap.size w w' := by
  have k1 := cv1
  go_enter Tryz.func43, Tryz.ntmps43
  go_wp2
  all_goals go_ret
  all_goals refine ⟨fin_str ?_, ?_⟩
  all_goals first | exact Below.refl _ _ | exact (Below.refl _ _).alloc (Nat.le_refl _) _ | skip
  all_goals (unfold pV pT; (repeat' split) <;> first | rfl | (subst_vars; rfl) | (exfalso; grind (splits := 40)))
set_option maxHeartbeats 400000 in
theorem c33 (c : Int) (w : World) : Calls Tryz.prog 20 #[.int .i64 c] w fun e w' => e = .returned (.bool (opB c)) ∧ w' = w := by
  go_enter Tryz.func20, Tryz.ntmps20
  go_wp2
  all_goals go_ret
  all_goals refine ⟨ret_bool ?_, rfl⟩
  all_goals grind (splits := 40) [opB]
theorem digsA : ∀ (n : Nat) (h : n < (⟨#[48, 49, 50, 51, 52, 53, 54, 55, 56, 57, 65, 66, 67, 68, 69, 70]⟩ : ByteArray).size), (((⟨#[48, 49, 50, 51, 52, 53, 54, 55, 56, 57, 65, 66, 67, 68, 69, 70]⟩ : ByteArray)[n]'h).toNat : Int) = hx 65 n := by
  decide +kernel
theorem digsa : ∀ (n : Nat) (h : n < (⟨#[48, 49, 50, 51, 52, 53, 54, 55, 56, 57, 97, 98, 99, 100, 101, 102]⟩ : ByteArray).size), (((⟨#[48, 49, 50, 51, 52, 53, 54, 55, 56, 57, 97, 98, 99, 100, 101, 102]⟩ : ByteArray)[n]'h).toNat : Int) = hx 97 n := by
  decide +kernel
theorem nums_append (a b : List Int) : strOfNums a ++ strOfNums b = strOfNums (a ++ b) := by
  apply ByteArray.ext
  simp [strOfNums]
theorem lit37 : (⟨#[37]⟩ : ByteArray) = strOfNums [37] := by decide
theorem lit92 : (⟨#[92, 120]⟩ : ByteArray) = strOfNums [92, 120] := by decide
theorem lit39 : (⟨#[39]⟩ : ByteArray) = strOfNums [39] := by decide
set_option maxRecDepth 100000 in
set_option maxHeartbeats 2000000 in
theorem c34text (b : Int) (w : World) (h0 : 0 ≤ b) (h1 : b ≤ 255) (c : Int) (hc : c = 0 ∨ c = 15 ∨ c = 16) :
    Calls Tryz.prog 21 #[.int .i64 c, .int .u8 b] w fun e w' => e = .returned (.string (strOfNums (pc c b))) ∧ Below w.heap.size w w' := by
  have k1 := cv1
  rcases hc with rfl | rfl | rfl
  · go_enter Tryz.func21, Tryz.ntmps21
    go_wp2_with (first | (go_at_call 41; refine (c66 _ _ (by omega) (by omega)).mono ?_; rintro e w' ⟨rfl, hw⟩; obtain rfl := hw.symm) | (go_at_call 42; refine (c67 _ _ (by omega) (by omega)).mono ?_; rintro e w' ⟨rfl, hw⟩; obtain rfl := hw.symm) | (go_at_call 43; refine (c68f _ _ (by omega) (by omega)).mono ?_; rintro e w' ⟨rfl, hb⟩))
    go_ret
    exact ⟨rfl, ((Below.refl _ _).alloc (Nat.le_refl _) _).trans (hb.mono (by simp))⟩
  · go_enter Tryz.func21, Tryz.ntmps21
    go_wp2_with (first | (go_at_call 41; refine (c66 _ _ (by omega) (by omega)).mono ?_; rintro e w' ⟨rfl, hw⟩; obtain rfl := hw.symm) | (go_at_call 42; refine (c67 _ _ (by omega) (by omega)).mono ?_; rintro e w' ⟨rfl, hw⟩; obtain rfl := hw.symm) | (go_at_call 43; refine (c68t _ _ (by omega) (by omega)).mono ?_; rintro e w' ⟨rfl, hb⟩))
    go_ret
    exact ⟨rfl, ((Below.refl _ _).alloc (Nat.le_refl _) _).trans (hb.mono (by simp))⟩
  · go_enter Tryz.func21, Tryz.ntmps21
    go_wp2_with (first | (go_at_call 41; refine (c66 _ _ (by omega) (by omega)).mono ?_; rintro e w' ⟨rfl, hw⟩; obtain rfl := hw.symm) | (go_at_call 42; refine (c67 _ _ (by omega) (by omega)).mono ?_; rintro e w' ⟨rfl, hw⟩; obtain rfl := hw.symm) | (go_at_call 43; refine (c68t _ _ (by omega) (by omega)).mono ?_; rintro e w' ⟨rfl, hb⟩))
    go_ret
    exact ⟨rfl, ((Below.refl _ _).alloc (Nat.le_refl _) _).trans (hb.mono (by simp))⟩
set_option maxRecDepth 100000 in
set_option maxHeartbeats 2000000 in
theorem c34link (b : Int) (w : World) (h0 : 0 ≤ b) (h1 : b ≤ 255) (c : Int) (hc : c = 17 ∨ c = 18) :
    Calls Tryz.prog 21 #[.int .i64 c, .int .u8 b] w fun e w' => e = .returned (.string (strOfNums (pc c b))) ∧ Below w.heap.size w w' := by
  have k1 := cv1
  have e : pc c b = pL b := by rcases hc with rfl | rfl <;> simp [pc]
  rw [e]
  clear e
  rcases hc with rfl | rfl
  all_goals
    go_enter Tryz.func21, Tryz.ntmps21
    go_wp2_with (first | (go_at_call 41; refine (c66 _ _ (by omega) (by omega)).mono ?_; rintro e w' ⟨rfl, hw⟩; obtain rfl := hw.symm) | (go_at_call 42; refine (c67 _ _ (by omega) (by omega)).mono ?_; rintro e w' ⟨rfl, hw⟩; obtain rfl := hw.symm) | (go_at_call 44; refine (c69 _ 65 _ _ (by omega) (by omega) (by decide) digsA).mono ?_; rintro e w' ⟨rfl, hb⟩))
    all_goals go_ret
    all_goals refine ⟨?_, ?_⟩
    all_goals first | exact (Below.refl _ _).alloc (Nat.le_refl _) _ | exact ((Below.refl _ _).alloc (Nat.le_refl _) _).trans (hb.mono (by simp)) | skip
    all_goals refine fin_str ?_
    all_goals first | (refine congrArg strOfNums ?_; unfold pL; rw [if_pos (by grind (splits := 40) [sfL, wdB])]; all_goals grind) | (unfold pL; rw [if_neg (by grind (splits := 40) [sfL, wdB]), lit37]; exact nums_append _ _)
set_option maxRecDepth 100000 in
set_option maxHeartbeats 2000000 in
theorem c34quote (b : Int) (w : World) (h0 : 0 ≤ b) (h1 : b ≤ 255) (c : Int) (hc : c = 19 ∨ c = 21) :
    Calls Tryz.prog 21 #[.int .i64 c, .int .u8 b] w fun e w' => e = .returned (.string (strOfNums (pc c b))) ∧ Below w.heap.size w w' := by
  have k1 := cv1
  have e : pc c b = pQ b := by rcases hc with rfl | rfl <;> simp [pc]
  rw [e]
  clear e
  rcases hc with rfl | rfl
  all_goals
    go_enter Tryz.func21, Tryz.ntmps21
    go_wp2_with (first | (go_at_call 41; refine (c66 _ _ (by omega) (by omega)).mono ?_; rintro e w' ⟨rfl, hw⟩; obtain rfl := hw.symm) | (go_at_call 42; refine (c67 _ _ (by omega) (by omega)).mono ?_; rintro e w' ⟨rfl, hw⟩; obtain rfl := hw.symm) | (go_at_call 44; refine (c69 _ 97 _ _ (by omega) (by omega) (by decide) digsa).mono ?_; rintro e w' ⟨rfl, hb⟩))
    all_goals go_ret
    all_goals refine ⟨?_, ?_⟩
    all_goals first | exact (Below.refl _ _).alloc (Nat.le_refl _) _ | exact ((Below.refl _ _).alloc (Nat.le_refl _) _).trans (hb.mono (by simp)) | skip
    all_goals refine fin_str ?_
    all_goals first | (refine congrArg strOfNums ?_; unfold pQ; rw [if_pos (by grind (splits := 40) [sfQ, wdB])]; all_goals grind) | (unfold pQ; rw [if_neg (by grind (splits := 40) [sfQ, wdB]), lit92]; exact nums_append _ _)
theorem c34 (c b : Int) (w : World) (h0 : 0 ≤ b) (h1 : b ≤ 255) (ho : opB c = true) :
    Calls Tryz.prog 21 #[.int .i64 c, .int .u8 b] w fun e w' => e = .returned (.string (strOfNums (pc c b))) ∧ Below w.heap.size w w' := by
  simp only [opB, decide_eq_true_eq] at ho
  by_cases h : c = 0 ∨ c = 15 ∨ c = 16
  · exact c34text b w h0 h1 c h
  · by_cases h' : c = 17 ∨ c = 18
    · exact c34link b w h0 h1 c h'
    · exact c34quote b w h0 h1 c (by omega)
end Go.Proofs.YtffkejkgkgfnhabGreat
