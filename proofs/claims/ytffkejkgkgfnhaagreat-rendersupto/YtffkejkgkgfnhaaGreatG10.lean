import Derived.Test.YtffkejkgkgfnhaaGreatG09
namespace Go.Proofs.YtffkejkgkgfnhaaGreat
open Go.RowKit
set_option linter.unusedVariables false
def Nds.drop : Nat → Nds → Nds
  | 0, ns => ns
  | _ + 1, .nil => .nil
  | n + 1, .cons _ _ _ _ _ _ r => Nds.drop n r
def Nds.sz : Nds → Nat
  | .nil => 0
  | .cons _ _ _ th el _ r => th.sz + el.sz + r.sz + 1
theorem slc_form {w : World} {A : Nat → Prop} {ty : Nat} {v : Value} {ns : Nds} (h : Slc w A ty v ns) : ∃ a c, v = .slice a ns.len c := by
  rcases h with ⟨rfl, h0, _⟩ | ⟨g, cap, cur, rfl, _⟩
  · exact ⟨none, 0, by rw [h0]⟩
  · exact ⟨_, _, rfl⟩
def NdAt (w : World) (A : Nat → Prop) (g : Nat) (ns : Nds) (i : Nat) : Prop :=
  ∃ (k a : Int) (nm : ByteArray) (th el : Nds) (two : Bool) (r : Nds) (ta ea : Option Addr) (tc ec : Nat), ns.drop i = .cons k a nm th el two r ∧ ns.drop (i + 1) = r ∧
    w.cell? ⟨g, i * 6, none⟩ = some (.int .i64 k) ∧ w.cell? ⟨g, i * 6 + 1, none⟩ = some (.int .i64 a) ∧ w.cell? ⟨g, i * 6 + 2, none⟩ = some (.string nm) ∧ w.cell? ⟨g, i * 6 + 3, none⟩ = some (.slice ta th.len tc) ∧ w.cell? ⟨g, i * 6 + 4, none⟩ = some (.slice ea el.len ec) ∧
    Slc w A 102 (.slice ta th.len tc) th ∧ Slc w A 102 (.slice ea el.len ec) el ∧ th.sz < ns.sz ∧ el.sz < ns.sz ∧ w.cell? ⟨g, i * 6 + 5, none⟩ = some (.bool two)
theorem RowOK.at {w : World} {A : Nat → Prop} : ∀ (ns : Nds) (xs : List Value) (i : Nat) (hi : i < ns.len), RowOK w A 102 ns xs →
    ∃ (k a : Int) (nm : ByteArray) (th el : Nds) (two : Bool) (r : Nds) (ta ea : Option Addr) (tc ec : Nat), ns.drop i = .cons k a nm th el two r ∧ ns.drop (i + 1) = r ∧
    xs[i * 6]? = some (.int .i64 k) ∧ xs[i * 6 + 1]? = some (.int .i64 a) ∧ xs[i * 6 + 2]? = some (.string nm) ∧ xs[i * 6 + 3]? = some (.slice ta th.len tc) ∧ xs[i * 6 + 4]? = some (.slice ea el.len ec) ∧
    Slc w A 102 (.slice ta th.len tc) th ∧ Slc w A 102 (.slice ea el.len ec) el ∧ th.sz < ns.sz ∧ el.sz < ns.sz ∧ xs[i * 6 + 5]? = some (.bool two)
  | .nil, xs, i, hi, h => absurd hi (by simp [Nds.len])
  | .cons k a nm th el two r, xs, 0, hi, h => by
    obtain ⟨tv, ev, ys, rfl, h2, h3, h4⟩ := h
    obtain ⟨ta, tc, rfl⟩ := slc_form (ns := th) h2
    obtain ⟨ea, ec, rfl⟩ := slc_form (ns := el) h3
    exact ⟨k, a, nm, th, el, two, r, ta, ea, tc, ec, rfl, rfl, rfl, rfl, rfl, rfl, rfl, h2, h3, by simp only [Nds.sz]; omega, by simp only [Nds.sz]; omega, rfl⟩
  | .cons k0 a0 nm0 th0 el0 two0 r0, xs, i + 1, hi, h => by
    obtain ⟨tv, ev, ys, rfl, h2, h3, h4⟩ := h
    have hi' : i < r0.len := by simpa [Nds.len] using hi
    obtain ⟨k, a, nm, th, el, two, r, ta, ea, tc, ec, e1, e2, c0, c1, c2, c3, c4, s1, s2, z1, z2, c5⟩ := RowOK.at r0 ys i hi' h4
    have sh : ∀ j, (ndC k0 a0 nm0 tv ev two0 ++ ys)[(i + 1) * 6 + j]? = ys[i * 6 + j]? := by
      intro j
      rw [List.getElem?_append_right (by simp [ndC]; omega)]
      congr 1
      simp [ndC]; omega
    have sh0 := sh 0
    simp only [Nat.add_zero] at sh0
    exact ⟨k, a, nm, th, el, two, r, ta, ea, tc, ec, e1, e2, by rw [sh0]; exact c0, by rw [sh]; exact c1, by rw [sh]; exact c2, by rw [sh]; exact c3, by rw [sh]; exact c4, s1, s2, by simp only [Nds.sz]; omega, by simp only [Nds.sz]; omega, by rw [sh]; exact c5⟩
theorem ndAt {w : World} {A : Nat → Prop} {a : Option Addr} {n c : Nat} {ns : Nds} (h : Slc w A 102 (.slice a n c) ns) : n = ns.len ∧ (ns.len = 0 ∨ ∃ g, a = some ⟨g, 0, none⟩ ∧ ∀ i, i < ns.len → NdAt w A g ns i) := by
  rcases h with ⟨hv, h0, _⟩ | ⟨g, cap, cur, hv, hA, hg, hn, hm, hs, hr⟩
  · simp at hv; exact ⟨by omega, .inl h0⟩
  · simp at hv
    refine ⟨hv.2.1, .inr ⟨g, hv.1, fun i hi => ?_⟩⟩
    obtain ⟨k, a, nm, th, el, two, r, ta, ea, tc, ec, e1, e2, c0, c1, c2, c3, c4, s1, s2, z1, z2, c5⟩ := RowOK.at ns _ i hi hr
    have tk : ∀ j, j < ns.len * 6 → (cur.toList.take (ns.len * 6))[j]? = cur[j]? := by
      intro j hj; rw [List.getElem?_take_of_lt hj]; simp
    rw [tk _ (by omega)] at c0 c1 c2 c3 c4 c5
    refine ⟨k, a, nm, th, el, two, r, ta, ea, tc, ec, e1, e2, ?_, ?_, ?_, ?_, ?_, s1, s2, z1, z2, ?_⟩ <;> rw [cell_of_heap hg] <;> assumption
/-- the place of the first call of a name that no template has, or -1 -/
def unk (ts : List Tm) : Nds → Int
  | .nil => -1
  | .cons k a nm th el two r => if k = 5 ∧ fndF nm ts 0 < 0 then a else if 0 ≤ unk ts th then unk ts th else if 0 ≤ unk ts el then unk ts el else unk ts r
theorem drop_nil (ns : Nds) (i : Nat) (h : ns.len ≤ i) : ns.drop i = .nil := by
  induction i generalizing ns with
  | zero => cases ns with
    | nil => rfl
    | cons => simp [Nds.len] at h
  | succ n ih => cases ns with
    | nil => rfl
    | cons k a nm th el two r => exact ih r (by simpa [Nds.len] using h)
theorem len_sz (ns : Nds) : ns.len ≤ ns.sz := by
  induction ns with
  | nil => simp [Nds.len]
  | cons k a nm th el two r iht ihe ih => simp only [Nds.len, Nds.sz]; omega
set_option maxHeartbeats 4000000 in
theorem c61 (w : World) (A : Nat → Prop) (la : Option Addr) (lc : Nat) (ts : List Tm) (hl : ts.length ≤ 6) (ht : TmAt w A la ts) (m : Nat) : ∀ (ns : Nds), ns.sz < m → ns.sz ≤ 1000 → ∀ (a : Option Addr) (c : Nat), Slc w A 102 (.slice a ns.len c) ns →
    Calls Tryz.prog 37 #[.slice la ts.length lc, .slice a ns.len c] w fun e w' => e = .returned (.int .i64 (unk ts ns)) ∧ w' = w := by
  induction m with
  | zero => intro ns h; omega
  | succ m ih =>
    intro ns hsz hln a c hS
    have hll := len_sz ns
    have hlb : ns.len ≤ 1000 := by omega
    obtain ⟨_, h0 | ⟨g, rfl, hat⟩⟩ := ndAt hS
    · have hn : ns = .nil := by
        cases ns with
        | nil => rfl
        | cons => simp [Nds.len] at h0
      subst hn
      have HE : Hid (unk ts .nil = -1) := rfl
      have HL : Hid (Nds.len .nil = 0) := rfl
      clear hS ih hsz h0
      show Calls Tryz.prog 37 #[.slice la ts.length lc, .slice a 0 c] w _
      generalize unk ts .nil = E at *
      go_enter Tryz.func37, Tryz.ntmps37
      go_wp2
      refine wp_loop_rounds 1 ?_
      rw [rounds_succ]
      go_wp2
      go_ret
      exact ⟨retS_int HE.out.symm, rfl⟩
    · have HAT := hidS hat
      have HI := hidS ih
      have Hf := hidS (fun nm => c60 w A la lc ts nm hl ht)
      clear hat ih hS
      go_enter Tryz.func37, Tryz.ntmps37
      go_wp2
      go_loop [5, 6, 7] (fun i _ _ => ∃ k : Nat, k ≤ ns.len ∧ i = .int .i64 k ∧ Hid (unk ts ns = unk ts (ns.drop k))) (fun i _ _ => ns.len - (intOf i).toNat)
      case atStart => exact ⟨0, Nat.zero_le _, rfl, rfl⟩
      case round =>
        obtain ⟨k, hk, rfl, H⟩ := hrel
        by_cases hlt : k < ns.len
        · obtain ⟨kd, ap, nm, th, el, two, r, ta, ea, tc, ec, e1, e2, c0, c1, c2, c3, c4, s1, s2, z1, z2, c5⟩ := HAT.out k hlt
          have Hc1 := hidS (HI.out th (by omega) (by omega) ta tc s1)
          have Hc2 := hidS (HI.out el (by omega) (by omega) ea ec s2)
          have HU : Hid (unk ts ns = if kd = 5 ∧ fndF nm ts 0 < 0 then ap else if 0 ≤ unk ts th then unk ts th else if 0 ≤ unk ts el then unk ts el else unk ts (ns.drop (k + 1))) := by
            show _ = _
            rw [H.out, e1, e2]; rfl
          clear H s1 s2 z1 z2 c5 e1 e2
          generalize unk ts th = U1 at *
          generalize unk ts el = U2 at *
          generalize th.len = tl at *
          generalize el.len = eln at *
          by_cases hkd : kd = 5
          · have hk5 : (kd == 5) = true := by simp [hkd]
            have hfr := fndF_range nm ts 0
            by_cases hfn : fndF nm ts 0 < 0
            · have HF : Hid (unk ts ns = ap) := by show _ = _; rw [HU.out, if_pos ⟨hkd, hfn⟩]
              clear HU hkd Hc1 Hc2
              go_wp2_with fail
              refine (Hf.out nm).mono ?_
              rintro e w' ⟨rfl, hw⟩
              obtain rfl := hw.symm
              go_wp2
              go_ret
              exact ⟨retS_int HF.out.symm, rfl⟩
            · have HU' : Hid (unk ts ns = if 0 ≤ U1 then U1 else if 0 ≤ U2 then U2 else unk ts (ns.drop (k + 1))) := by show _ = _; rw [HU.out, if_neg (fun h => hfn h.2)]
              have HF1 : Hid (0 ≤ U1 → unk ts ns = U1) := fun h => by rw [HU'.out, if_pos h]
              have HF2 : Hid (¬ 0 ≤ U1 → 0 ≤ U2 → unk ts ns = U2) := fun h h' => by rw [HU'.out, if_neg h, if_pos h']
              have HF3 : Hid (¬ 0 ≤ U1 → ¬ 0 ≤ U2 → unk ts ns = unk ts (ns.drop (k + 1))) := fun h h' => by rw [HU'.out, if_neg h, if_neg h']
              clear HU HU' hkd
              by_cases u1 : 0 ≤ U1
              · have HF : Hid (unk ts ns = U1) := HF1.out u1
                go_wp2_with fail
                refine (Hf.out nm).mono ?_
                rintro e w' ⟨rfl, hw⟩
                obtain rfl := hw.symm
                go_wp2_with fail
                refine Hc1.out.mono ?_
                rintro e w' ⟨rfl, hw⟩
                obtain rfl := hw.symm
                go_wp2
                go_ret
                exact ⟨retS_int HF.out.symm, rfl⟩
              · by_cases u2 : 0 ≤ U2
                · have HF : Hid (unk ts ns = U2) := HF2.out u1 u2
                  go_wp2_with fail
                  refine (Hf.out nm).mono ?_
                  rintro e w' ⟨rfl, hw⟩
                  obtain rfl := hw.symm
                  go_wp2_with fail
                  refine Hc1.out.mono ?_
                  rintro e w' ⟨rfl, hw⟩
                  obtain rfl := hw.symm
                  go_wp2_with fail
                  refine Hc2.out.mono ?_
                  rintro e w' ⟨rfl, hw⟩
                  obtain rfl := hw.symm
                  go_wp2
                  go_ret
                  exact ⟨retS_int HF.out.symm, rfl⟩
                · have HF : Hid (unk ts ns = unk ts (ns.drop (k + 1))) := HF3.out u1 u2
                  go_wp2_with fail
                  refine (Hf.out nm).mono ?_
                  rintro e w' ⟨rfl, hw⟩
                  obtain rfl := hw.symm
                  go_wp2_with fail
                  refine Hc1.out.mono ?_
                  rintro e w' ⟨rfl, hw⟩
                  obtain rfl := hw.symm
                  go_wp2_with fail
                  refine Hc2.out.mono ?_
                  rintro e w' ⟨rfl, hw⟩
                  obtain rfl := hw.symm
                  go_wp2
                  go_round
                  case rel => exact ⟨k + 1, by omega, by go_num, HF.out⟩
                  case measure => simp [intOf]; omega
          · have hk5 : (kd == 5) = false := by simp [hkd]
            have HU' : Hid (unk ts ns = if 0 ≤ U1 then U1 else if 0 ≤ U2 then U2 else unk ts (ns.drop (k + 1))) := by show _ = _; rw [HU.out, if_neg (fun h => hkd h.1)]
            have HF1 : Hid (0 ≤ U1 → unk ts ns = U1) := fun h => by rw [HU'.out, if_pos h]
            have HF2 : Hid (¬ 0 ≤ U1 → 0 ≤ U2 → unk ts ns = U2) := fun h h' => by rw [HU'.out, if_neg h, if_pos h']
            have HF3 : Hid (¬ 0 ≤ U1 → ¬ 0 ≤ U2 → unk ts ns = unk ts (ns.drop (k + 1))) := fun h h' => by rw [HU'.out, if_neg h, if_neg h']
            clear HU HU' hkd
            by_cases u1 : 0 ≤ U1
            · have HF : Hid (unk ts ns = U1) := HF1.out u1
              go_wp2_with fail
              refine Hc1.out.mono ?_
              rintro e w' ⟨rfl, hw⟩
              obtain rfl := hw.symm
              go_wp2
              go_ret
              exact ⟨retS_int HF.out.symm, rfl⟩
            · by_cases u2 : 0 ≤ U2
              · have HF : Hid (unk ts ns = U2) := HF2.out u1 u2
                go_wp2_with fail
                refine Hc1.out.mono ?_
                rintro e w' ⟨rfl, hw⟩
                obtain rfl := hw.symm
                go_wp2_with fail
                refine Hc2.out.mono ?_
                rintro e w' ⟨rfl, hw⟩
                obtain rfl := hw.symm
                go_wp2
                go_ret
                exact ⟨retS_int HF.out.symm, rfl⟩
              · have HF : Hid (unk ts ns = unk ts (ns.drop (k + 1))) := HF3.out u1 u2
                go_wp2_with fail
                refine Hc1.out.mono ?_
                rintro e w' ⟨rfl, hw⟩
                obtain rfl := hw.symm
                go_wp2_with fail
                refine Hc2.out.mono ?_
                rintro e w' ⟨rfl, hw⟩
                obtain rfl := hw.symm
                go_wp2
                go_round
                case rel => exact ⟨k + 1, by omega, by go_num, HF.out⟩
                case measure => simp [intOf]; omega
        · have HF : Hid (unk ts ns = -1) := by
            show _ = _
            rw [H.out, drop_nil ns k (by omega)]; rfl
          go_wp2
          go_ret
          exact ⟨retS_int HF.out.symm, rfl⟩
end Go.Proofs.YtffkejkgkgfnhaaGreat
namespace Go.Proofs.YtffkejkgkgfnhaaGreat
open Go.RowKit
set_option linter.unusedVariables false
theorem Flat.szle {s : ByteArray} {d p e : Nat} {a : Nds} {A : List Ak} (h : Flat s d a p A e) : a.sz + p ≤ e := by
  induction h with
  | nil d p => simp [Nds.sz]
  | text h _ ih => simp only [Nds.sz]; omega
  | @hole d p e r A h _ ih => have := act_next s p (by omega); simp only [Nds.sz]; omega
  | @call d p e r A h _ ih => have := act_next s p (by omega); simp only [Nds.sz]; omega
  | @loop d p e e1 th r A1 A hd h k1 h1 k2 ih1 ih => have := act_next s p (by omega); have := act_next s e1 (by omega); simp only [Nds.sz]; omega
  | @one d p e e1 th r A1 A hd h k1 h1 k2 ih1 ih => have := act_next s p (by omega); have := act_next s e1 (by omega); simp only [Nds.sz]; omega
  | @two d p e e1 e2 th el r A1 A2 A hd h k1 h1 k2 h2 k3 ih1 ih2 ih => have := act_next s p (by omega); have := act_next s e1 (by omega); have := act_next s e2 (by omega); simp only [Nds.sz]; omega
theorem TFlat.bodies {s : ByteArray} {ts : List Tm} {A : List Ak} {p : Nat} (h : TFlat s ts A p) : ∀ t ∈ ts, t.body.sz ≤ s.size := by
  induction h with
  | nil => intro t ht; cases ht
  | @snoc ts A B p e b h hl hk hb he ih =>
    intro t ht
    rcases List.mem_append.1 ht with ht | ht
    · exact ih t ht
    · simp at ht; subst ht
      have := hb.szle
      have := act_next s e (by omega)
      show b.sz ≤ _
      omega
def twF (ts : List Tm) : List Tm → Nat → Int
  | [], _ => -1
  | t :: r, i => if fndF t.name ts 0 < i then t.at' else twF ts r (i + 1)
def unF (ts : List Tm) : List Tm → Int
  | [] => -1
  | t :: r => if 0 ≤ unk ts t.body then unk ts t.body else unF ts r
theorem twF_at (ts us : List Tm) (i : Nat) (hi : i < us.length) : twF ts (us.drop i) i = if fndF us[i].name ts 0 < i then (us[i].at' : Int) else twF ts (us.drop (i + 1)) (i + 1) := by
  rw [List.drop_eq_getElem_cons hi]; rfl
theorem unF_at (ts us : List Tm) (i : Nat) (hi : i < us.length) : unF ts (us.drop i) = if 0 ≤ unk ts us[i].body then unk ts us[i].body else unF ts (us.drop (i + 1)) := by
  rw [List.drop_eq_getElem_cons hi]; rfl
def ReadOut (ts : List Tm) (a : Option Addr) (c : Nat) (e : Ending) : Prop :=
  (0 ≤ twF ts ts 0 ∧ e = .returned (.tuple #[.slice none 0 0, .int .i64 3, .int .i64 (twF ts ts 0)])) ∨
  (twF ts ts 0 = -1 ∧ 0 ≤ unF ts ts ∧ e = .returned (.tuple #[.slice none 0 0, .int .i64 4, .int .i64 (unF ts ts)])) ∨
  (twF ts ts 0 = -1 ∧ unF ts ts < 0 ∧ e = .returned (.tuple #[.slice a ts.length c, .int .i64 0, .int .i64 0]))
def ReadPost (s : ByteArray) (w : World) (e : Ending) (w' : World) : Prop :=
  (∃ wr : Nat, e = .returned (.tuple #[.slice none 0 0, .int .i64 2, .int .i64 wr]) ∧ Ends s init (.err wr)) ∨
  (∃ (a : Option Addr) (c : Nat) (ts : List Tm) (A : List Ak), TFlat s ts A s.size ∧ Ends s init (.fin A) ∧ ts.length ≤ 6 ∧ SlcX w' (rng w.heap.size w'.heap.size) 72 3 (.slice a ts.length c) ts.length (RowT w' (rng w.heap.size w'.heap.size) ts) ∧ ReadOut ts a c e)
set_option maxHeartbeats 400000 in
theorem c31long (s : ByteArray) (w : World) (hs : 400 < s.size) (hm : s.size ≤ maxLen) : Calls Tryz.prog 20 #[.string s] w fun e w' => e = .returned (.tuple #[.slice none 0 0, .int .i64 1, .int .i64 0]) ∧ w' = w := by
  go_enter Tryz.func20, Tryz.ntmps20
  go_wp2
  go_ret3
  exact ⟨rfl, rfl⟩
theorem slcX_drew {w w1 : World} {n : Nat} (h : w1 = w.drewN n) {B : Nat} {a : Option Addr} {c : Nat} {ts : List Tm} (k : SlcX w (rng B w.heap.size) 72 3 (.slice a ts.length c) ts.length (RowT w (rng B w.heap.size) ts)) :
    SlcX w1 (rng B w1.heap.size) 72 3 (.slice a ts.length c) ts.length (RowT w1 (rng B w1.heap.size) ts) := by
  subst h
  exact SlcX.mono (A' := rng B (w.drewN n).heap.size) k (fun _ _ => rfl) (fun _ h => ⟨h.1, h.2⟩) (fun xs => RowT.mono (w := w) (w' := w.drewN n) (A := rng B w.heap.size) (A' := rng B (w.drewN n).heap.size) (fun _ _ => rfl) (fun _ h => ⟨h.1, h.2⟩) ts xs)
set_option maxRecDepth 100000 in
set_option maxHeartbeats 4000000 in
theorem c31 (s : ByteArray) (w : World) (hs : s.size ≤ 400) : Calls Tryz.prog 20 #[.string s] w fun e w' => Below w.heap.size w w' ∧ ReadPost s w e w' := by
  have Hc := hidS (c59 s w (by omega))
  go_enter Tryz.func20, Tryz.ntmps20
  go_wp2_with fail
  refine Hc.out.mono ?_
  clear Hc
  rintro e w1 ⟨hb1, hor⟩
  rcases hor with ⟨er, rfl, hE⟩ | ⟨la, lc, ts, A, rfl, hT, hE, hl, hS⟩
  · have HE := hidS hE
    clear hE
    go_wp2
    go_ret3
    exact ⟨hb1, .inl ⟨er, rfl, HE.out⟩⟩
  · have HAT := hidS (tmAt hS)
    have HTF := hidS hT
    have HE := hidS hE
    have HS := hidS hS
    have Hf := hidS (fun nm => c60 w1 _ la lc ts nm hl HAT.out)
    have Hu := hidS (fun ns h1 h2 => c61 w1 _ la lc ts hl HAT.out (ns.sz + 1) ns h1 h2)
    have HB := hidS hT.bodies
    clear hT hE hS
    go_wp2
    go_loop [7, 8] (fun i _ => ∃ k : Nat, k ≤ ts.length ∧ i = .int .i64 k ∧ Hid (twF ts ts 0 = twF ts (ts.drop k) k)) (fun i _ => ts.length - (intOf i).toNat)
    case atStart => exact ⟨0, Nat.zero_le _, rfl, rfl⟩
    case round =>
      obtain ⟨k, hk, rfl, H⟩ := hrel
      by_cases hlt : k < ts.length
      · rcases HAT.out with h0 | ⟨g, hla, hat⟩
        · omega
        · obtain ⟨c0, c1, _⟩ := hat k hlt
          have HST := hidS (twF_at ts ts k hlt)
          subst hla
          clear hat
          have hfr := fndF_range ts[k].name ts 0
          by_cases hn : fndF ts[k].name ts 0 < k
          · have HF : Hid (twF ts ts 0 = ts[k].at') := by show _ = _; rw [H.out, HST.out, if_pos hn]
            clear HST H
            go_wp2_with fail
            refine (Hf.out _).mono ?_
            rintro e w' ⟨rfl, hw⟩
            obtain rfl := hw.symm
            go_wp2
            go_quiet (fail)
            go_wp2
            go_ret3
            refine ⟨below_drewN hb1 _, .inr ⟨_, lc, ts, A, HTF.out, HE.out, hl, slcX_drew rfl HS.out, .inl ⟨by rw [HF.out]; omega, by rw [HF.out]; rfl⟩⟩⟩
          · have HF : Hid (twF ts ts 0 = twF ts (ts.drop (k + 1)) (k + 1)) := by show _ = _; rw [H.out, HST.out, if_neg hn]
            clear HST H
            go_wp2_with fail
            refine (Hf.out _).mono ?_
            rintro e w' ⟨rfl, hw⟩
            obtain rfl := hw.symm
            go_wp2
            go_round
            case rel => exact ⟨k + 1, by omega, by go_num, HF.out⟩
            case measure => simp [intOf]; omega
      · have HTW : Hid (twF ts ts 0 = -1) := by show _ = _; rw [H.out, List.drop_eq_nil_of_le (by omega)]; rfl
        clear H
        go_wp2
        clear hlt hk
        go_loop [6, 9] (fun _ i => ∃ k : Nat, k ≤ ts.length ∧ i = .int .i64 k ∧ Hid (unF ts ts = unF ts (ts.drop k))) (fun _ i => ts.length - (intOf i).toNat)
        case atStart => exact ⟨0, Nat.zero_le _, rfl, rfl⟩
        case round =>
          obtain ⟨k, hk, rfl, H⟩ := hrel
          by_cases hlt : k < ts.length
          · rcases HAT.out with h0 | ⟨g, hla, hat⟩
            · omega
            · obtain ⟨c0, c1, ba, bn, bc, c2, hsb⟩ := hat k hlt
              have HST := hidS (unF_at ts ts k hlt)
              obtain ⟨hbn, _⟩ := ndAt hsb
              have Hc := hidS (Hu.out ts[k].body (by omega) (by have := HB.out ts[k] (List.getElem_mem hlt); omega) ba bc (by rw [hbn] at hsb; exact hsb))
              subst hla
              clear hat hsb c0 c1
              rw [hbn] at c2
              clear hbn
              generalize ts[k].body.len = bl at *
              generalize unk ts ts[k].body = U at *
              by_cases hu : 0 ≤ U
              · have HF : Hid (unF ts ts = U) := by show _ = _; rw [H.out, HST.out, if_pos hu]
                clear HST H
                go_wp2_with fail
                refine Hc.out.mono ?_
                rintro e w' ⟨rfl, hw⟩
                obtain rfl := hw.symm
                go_wp2
                go_ret3
                exact ⟨hb1, .inr ⟨_, lc, ts, A, HTF.out, HE.out, hl, HS.out, .inr (.inl ⟨HTW.out, by rw [HF.out]; exact hu, by rw [HF.out]; rfl⟩)⟩⟩
              · have HF : Hid (unF ts ts = unF ts (ts.drop (k + 1))) := by show _ = _; rw [H.out, HST.out, if_neg hu]
                clear HST H
                go_wp2_with fail
                refine Hc.out.mono ?_
                rintro e w' ⟨rfl, hw⟩
                obtain rfl := hw.symm
                go_wp2
                go_round
                case rel => exact ⟨k + 1, by omega, by go_num, HF.out⟩
                case measure => simp [intOf]; omega
          · have HUN : Hid (unF ts ts = -1) := by show _ = _; rw [H.out, List.drop_eq_nil_of_le (by omega)]; rfl
            go_wp2
            go_ret3
            exact ⟨hb1, .inr ⟨la, lc, ts, A, HTF.out, HE.out, hl, HS.out, .inr (.inr ⟨HTW.out, by rw [HUN.out]; omega, rfl⟩)⟩⟩
end Go.Proofs.YtffkejkgkgfnhaaGreat
