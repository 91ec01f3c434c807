import Derived.Test.YtponicaflcbbeaaGreatUnk
namespace Go.Proofs.YtponicaflcbbeaaGreat
open Go.RowKit
set_option linter.unusedVariables false
theorem Flat.szle {s : ByteArray} {d p e : Nat} {a : Nds} {A : List Ak} (h : Flat s d a p A e) : a.sz + p ≤ e := by
  induction h with
  | nil d p => simp [Nds.sz]
  | text h _ ih => simp only [Nds.sz]; omega
  | @hole d p e r A h _ ih => have := act_next s p (by omega); simp only [Nds.sz]; omega
  | @call d p e r A h _ ih => have := act_next s p (by omega); simp only [Nds.sz]; omega
  | @loop d p e e1 th r A1 A hd h k1 h1 k2 ih1 ih => have := act_next s p (by omega); have := act_next s e1 (by omega); simp only [Nds.sz]; omega
  | @one d p e e1 th r A1 A hd h k1 h1 k2 ih1 ih => have := act_next s p (by omega); have := act_next s e1 (by omega); simp only [Nds.sz]; omega
  | @two d p e e1 e2 th el r A1 A2 A hd h k1 h1 k2 h2 k3 ih1 ih2 ih => have := act_next s p (by omega); have := act_next s e1 (by omega); have := act_next s e2 (by omega); simp only [Nds.sz]; omega
theorem TFlat.bodies {s : ByteArray} {ts : List Tm} {A : List Ak} {p : Nat} (h : TFlat s ts A p) : ∀ t ∈ ts, t.body.sz ≤ s.size := by
  induction h with
  | nil => intro t ht; cases ht
  | @snoc ts A B p e b h hl hk hb he ih =>
    intro t ht
    rcases List.mem_append.1 ht with ht | ht
    · exact ih t ht
    · simp at ht; subst ht
      have := hb.szle
      have := act_next s e (by omega)
      show b.sz ≤ _
      omega
def twF (ts : List Tm) : List Tm → Nat → Int
  | [], _ => -1
  | t :: r, i => if fndF t.name ts 0 < i then t.at' else twF ts r (i + 1)
def unF (ts : List Tm) : List Tm → Int
  | [] => -1
  | t :: r => if 0 ≤ unk ts t.body then unk ts t.body else unF ts r
theorem twF_at (ts us : List Tm) (i : Nat) (hi : i < us.length) : twF ts (us.drop i) i = if fndF us[i].name ts 0 < i then (us[i].at' : Int) else twF ts (us.drop (i + 1)) (i + 1) := by
  rw [List.drop_eq_getElem_cons hi]; rfl
theorem unF_at (ts us : List Tm) (i : Nat) (hi : i < us.length) : unF ts (us.drop i) = if 0 ≤ unk ts us[i].body then unk ts us[i].body else unF ts (us.drop (i + 1)) := by
  rw [List.drop_eq_getElem_cons hi]; rfl
def ReadOut (ts : List Tm) (a : Option Addr) (c : Nat) (e : Ending) : Prop :=
  (0 ≤ twF ts ts 0 ∧ e = .returned (.tuple #[.slice none 0 0, .int .i64 3, .int .i64 (twF ts ts 0)])) ∨
  (twF ts ts 0 = -1 ∧ 0 ≤ unF ts ts ∧ e = .returned (.tuple #[.slice none 0 0, .int .i64 4, .int .i64 (unF ts ts)])) ∨
  (twF ts ts 0 = -1 ∧ unF ts ts < 0 ∧ e = .returned (.tuple #[.slice a ts.length c, .int .i64 0, .int .i64 0]))
def ReadPost (s : ByteArray) (w : World) (e : Ending) (w' : World) : Prop :=
  (∃ wr : Nat, e = .returned (.tuple #[.slice none 0 0, .int .i64 2, .int .i64 wr]) ∧ Ends s init (.err wr)) ∨
  (∃ (a : Option Addr) (c : Nat) (ts : List Tm) (A : List Ak), TFlat s ts A s.size ∧ Ends s init (.fin A) ∧ ts.length ≤ 6 ∧ SlcX w' (rng w.heap.size w'.heap.size) 72 3 (.slice a ts.length c) ts.length (RowT w' (rng w.heap.size w'.heap.size) ts) ∧ ReadOut ts a c e)
set_option maxHeartbeats 400000 in
theorem c31long (s : ByteArray) (w : World) (hs : 400 < s.size) (hm : s.size ≤ maxLen) : Calls Tryz.prog 19 #[.string s] w fun e w' => e = .returned (.tuple #[.slice none 0 0, .int .i64 1, .int .i64 0]) ∧ w' = w := by
  go_enter Tryz.func19, Tryz.ntmps19
  go_wp2
  go_ret3
  exact ⟨rfl, rfl⟩
theorem slcX_drew {w w1 : World} {n : Nat} (h : w1 = w.drewN n) {B : Nat} {a : Option Addr} {c : Nat} {ts : List Tm} (k : SlcX w (rng B w.heap.size) 72 3 (.slice a ts.length c) ts.length (RowT w (rng B w.heap.size) ts)) :
    SlcX w1 (rng B w1.heap.size) 72 3 (.slice a ts.length c) ts.length (RowT w1 (rng B w1.heap.size) ts) := by
  subst h
  exact SlcX.mono (A' := rng B (w.drewN n).heap.size) k (fun _ _ => rfl) (fun _ h => ⟨h.1, h.2⟩) (fun xs => RowT.mono (w := w) (w' := w.drewN n) (A := rng B w.heap.size) (A' := rng B (w.drewN n).heap.size) (fun _ _ => rfl) (fun _ h => ⟨h.1, h.2⟩) ts xs)
set_option maxRecDepth 100000 in
set_option maxHeartbeats 4000000 in
theorem c31 (s : ByteArray) (w : World) (hs : s.size ≤ 400) : Calls Tryz.prog 19 #[.string s] w fun e w' => Below w.heap.size w w' ∧ ReadPost s w e w' := by
  have Hc := hidS (c59 s w (by omega))
  go_enter Tryz.func19, Tryz.ntmps19
  go_wp2_with fail
  refine Hc.out.mono ?_
  clear Hc
  rintro e w1 ⟨hb1, hor⟩
  rcases hor with ⟨er, rfl, hE⟩ | ⟨la, lc, ts, A, rfl, hT, hE, hl, hS⟩
  · have HE := hidS hE
    clear hE
    go_wp2
    go_ret3
    exact ⟨hb1, .inl ⟨er, rfl, HE.out⟩⟩
  · have HAT := hidS (tmAt hS)
    have HTF := hidS hT
    have HE := hidS hE
    have HS := hidS hS
    have Hf := hidS (fun nm => c60 w1 _ la lc ts nm hl HAT.out)
    have Hu := hidS (fun ns h1 h2 => c61 w1 _ la lc ts hl HAT.out (ns.sz + 1) ns h1 h2)
    have HB := hidS hT.bodies
    clear hT hE hS
    go_wp2
    go_loop [7, 8] (fun i _ => ∃ k : Nat, k ≤ ts.length ∧ i = .int .i64 k ∧ Hid (twF ts ts 0 = twF ts (ts.drop k) k)) (fun i _ => ts.length - (intOf i).toNat)
    case atStart => exact ⟨0, Nat.zero_le _, rfl, rfl⟩
    case round =>
      obtain ⟨k, hk, rfl, H⟩ := hrel
      by_cases hlt : k < ts.length
      · rcases HAT.out with h0 | ⟨g, hla, hat⟩
        · omega
        · obtain ⟨c0, c1, _⟩ := hat k hlt
          have HST := hidS (twF_at ts ts k hlt)
          subst hla
          clear hat
          have hfr := fndF_range ts[k].name ts 0
          by_cases hn : fndF ts[k].name ts 0 < k
          · have HF : Hid (twF ts ts 0 = ts[k].at') := by show _ = _; rw [H.out, HST.out, if_pos hn]
            clear HST H
            go_wp2_with fail
            refine (Hf.out _).mono ?_
            rintro e w' ⟨rfl, hw⟩
            obtain rfl := hw.symm
            go_wp2
            go_quiet (fail)
            go_wp2
            go_ret3
            refine ⟨below_drewN hb1 _, .inr ⟨_, lc, ts, A, HTF.out, HE.out, hl, slcX_drew rfl HS.out, .inl ⟨by rw [HF.out]; omega, by rw [HF.out]; rfl⟩⟩⟩
          · have HF : Hid (twF ts ts 0 = twF ts (ts.drop (k + 1)) (k + 1)) := by show _ = _; rw [H.out, HST.out, if_neg hn]
            clear HST H
            go_wp2_with fail
            refine (Hf.out _).mono ?_
            rintro e w' ⟨rfl, hw⟩
            obtain rfl := hw.symm
            go_wp2
            go_round
            case rel => exact ⟨k + 1, by omega, by go_num, HF.out⟩
            case measure => simp [intOf]; omega
      · have HTW : Hid (twF ts ts 0 = -1) := by show _ = _; rw [H.out, List.drop_eq_nil_of_le (by omega)]; rfl
        clear H
        go_wp2
        clear hlt hk
        go_loop [6, 9] (fun _ i => ∃ k : Nat, k ≤ ts.length ∧ i = .int .i64 k ∧ Hid (unF ts ts = unF ts (ts.drop k))) (fun _ i => ts.length - (intOf i).toNat)
        case atStart => exact ⟨0, Nat.zero_le _, rfl, rfl⟩
        case round =>
          obtain ⟨k, hk, rfl, H⟩ := hrel
          by_cases hlt : k < ts.length
          · rcases HAT.out with h0 | ⟨g, hla, hat⟩
            · omega
            · obtain ⟨c0, c1, ba, bn, bc, c2, hsb⟩ := hat k hlt
              have HST := hidS (unF_at ts ts k hlt)
              obtain ⟨hbn, _⟩ := ndAt hsb
              have Hc := hidS (Hu.out ts[k].body (by omega) (by have := HB.out ts[k] (List.getElem_mem hlt); omega) ba bc (by rw [hbn] at hsb; exact hsb))
              subst hla
              clear hat hsb c0 c1
              rw [hbn] at c2
              clear hbn
              generalize ts[k].body.len = bl at *
              generalize unk ts ts[k].body = U at *
              by_cases hu : 0 ≤ U
              · have HF : Hid (unF ts ts = U) := by show _ = _; rw [H.out, HST.out, if_pos hu]
                clear HST H
                go_wp2_with fail
                refine Hc.out.mono ?_
                rintro e w' ⟨rfl, hw⟩
                obtain rfl := hw.symm
                go_wp2
                go_ret3
                exact ⟨hb1, .inr ⟨_, lc, ts, A, HTF.out, HE.out, hl, HS.out, .inr (.inl ⟨HTW.out, by rw [HF.out]; exact hu, by rw [HF.out]; rfl⟩)⟩⟩
              · have HF : Hid (unF ts ts = unF ts (ts.drop (k + 1))) := by show _ = _; rw [H.out, HST.out, if_neg hu]
                clear HST H
                go_wp2_with fail
                refine Hc.out.mono ?_
                rintro e w' ⟨rfl, hw⟩
                obtain rfl := hw.symm
                go_wp2
                go_round
                case rel => exact ⟨k + 1, by omega, by go_num, HF.out⟩
                case measure => simp [intOf]; omega
          · have HUN : Hid (unF ts ts = -1) := by show _ = _; rw [H.out, List.drop_eq_nil_of_le (by omega)]; rfl
            go_wp2
            go_ret3
            exact ⟨hb1, .inr ⟨la, lc, ts, A, HTF.out, HE.out, hl, HS.out, .inr (.inr ⟨HTW.out, by rw [HUN.out]; omega, rfl⟩)⟩⟩
end Go.Proofs.YtponicaflcbbeaaGreat
