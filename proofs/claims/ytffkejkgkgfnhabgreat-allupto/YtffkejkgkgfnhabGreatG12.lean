import Derived.Test.YtffkejkgkgfnhabGreatG11
import Derived.Deep.RegionHeld3
namespace Go.Proofs.YtffkejkgkgfnhabGreat
open Go.RowKit
set_option linter.unusedVariables false
theorem run_lt {ts : List Tm} {j : Job} {m o : Nat} {st st' : RS} (h : Run ts j m st o st') : m < 2 ^ 24 → (∀ k, st.en k < 2 ^ 24) → o < 2 ^ 24 ∧ ∀ k, st'.en k < 2 ^ 24 := by
  induction h with
  | nil => intro hm hz; exact ⟨hm, hz⟩
  | cons h h' ih ih' => intro hm hz; obtain ⟨a, b⟩ := ih hm hz; exact ih' a b
  | text => intro hm hz; exact ⟨tOut_lt _ _ _, hz⟩
  | hole => intro hm hz; exact ⟨hm, hz⟩
  | one h ih => intro hm hz; obtain ⟨a, b⟩ := ih hm hz; exact ⟨or_lt24 a hm, b⟩
  | two h h' ih ih' => intro hm hz; obtain ⟨a, b⟩ := ih hm hz; obtain ⟨c, d⟩ := ih' hm b; exact ⟨or_lt24 a c, d⟩
  | loop h ih => exact ih
  | call => intro hm hz; exact ⟨cOut_lt _ _ _ hz _, hz⟩
  | stop h hs ih => intro hm hz; obtain ⟨a, b⟩ := ih hm hz; exact ⟨or_lt24 hm a, b⟩
  | more h h' ih ih' => intro hm hz; obtain ⟨a, b⟩ := ih hm hz; exact ih' (or_lt24 hm a) b
def WfN (ts : List Tm) : Nds → Prop
  | .nil => True
  | .cons k a nm th el _ r => (k = 1 ∨ k = 2 ∨ k = 3 ∨ k = 4 ∨ k = 5) ∧ (0 ≤ a ∧ a ≤ 400) ∧ nm.size ≤ 400 ∧ (k = 5 → 0 ≤ fndF nm ts 0) ∧ WfN ts th ∧ WfN ts el ∧ WfN ts r
theorem WfN.drop {ts : List Tm} : ∀ (b : Nds) (i : Nat), WfN ts b → WfN ts (b.drop i)
  | b, 0, h => by cases b <;> exact h
  | .nil, i + 1, h => h
  | .cons _ _ _ _ _ _ r, i + 1, h => WfN.drop r i h.2.2.2.2.2.2
structure Evn (w : World) (p : Wp) (A : Nat → Prop) (ts : List Tm) : Prop where
  dis : ∀ k, A k → k < w.heap.size ∧ k ≠ p.b ∧ k ≠ p.gb ∧ k ≠ p.ge ∧ k ≠ p.gu
  tm : SlcX w A 72 3 (.slice p.la ts.length p.lc) ts.length (RowT w A ts)
  tl : p.tl = ts.length
  n : p.n = ts.length * 24
  six : ts.length ≤ 6
  pos : 0 < ts.length
theorem Evn.keep {w w' : World} {p : Wp} {A : Nat → Prop} {ts : List Tm} (h : Evn w p A ts) (hc : Chg p w w') (k : Nat) (hk : A k) : w'.heap[k]? = w.heap[k]? := by
  obtain ⟨h1, h2, h3, h4, h5⟩ := h.dis k hk
  exact hc.block k h1 h2 h3 h4 h5
theorem Evn.mono {w w' : World} {p : Wp} {A : Nat → Prop} {ts : List Tm} (h : Evn w p A ts) (hc : Chg p w w') : Evn w' p A ts :=
  ⟨fun k hk => ⟨Nat.lt_of_lt_of_le (h.dis k hk).1 hc.size, (h.dis k hk).2⟩, SlcX.mono h.tm (h.keep hc) (fun _ q => q) (fun xs => RowT.mono (h.keep hc) (fun _ q => q) ts xs), h.tl, h.n, h.six, h.pos⟩
def ThrOK (ts : List Tm) (b : Nds) : Prop := ∀ (w : World) (p : Wp) (A : Nat → Prop) (st : RS) (m : Nat) (a : Option Addr) (c : Nat), m < 2 ^ 24 → Evn w p A ts → WkOK w p st → (∀ j, st.en j < 2 ^ 24) → Slc w A 102 (.slice a b.len c) b →
  Calls Tryz.prog 90 #[.pointer (some ⟨p.b, 0, none⟩), .slice a b.len c, .int .i64 m] w fun e w' => ∃ (o : Nat) (st' : RS), e = .returned (.int .i64 o) ∧ Run ts (.thr b) m st o st' ∧ Chg p w w' ∧ WkOK w' p st'
def LpsOK (ts : List Tm) (b : Nds) : Prop := ∀ (w : World) (p : Wp) (A : Nat → Prop) (st : RS) (m : Nat) (a : Option Addr) (c : Nat), m < 2 ^ 24 → Evn w p A ts → WkOK w p st → (∀ j, st.en j < 2 ^ 24) → Slc w A 102 (.slice a b.len c) b →
  Calls Tryz.prog 128 #[.pointer (some ⟨p.b, 0, none⟩), .int .i64 m, .slice a b.len c] w fun e w' => ∃ (o : Nat) (st' : RS), e = .returned (.int .i64 o) ∧ Run ts (.lps b) m st o st' ∧ Chg p w w' ∧ WkOK w' p st'
def PceOK (ts : List Tm) (k a : Int) (nm : ByteArray) (th el : Nds) (tw : Bool) : Prop := ∀ (w : World) (p : Wp) (A : Nat → Prop) (st : RS) (m : Nat) (ta ea : Option Addr) (tc ec : Nat), m < 2 ^ 24 → Evn w p A ts → WkOK w p st → (∀ j, st.en j < 2 ^ 24) → Slc w A 102 (.slice ta th.len tc) th → Slc w A 102 (.slice ea el.len ec) el →
  Calls Tryz.prog 112 #[.pointer (some ⟨p.b, 0, none⟩), .agg #[.int .i64 k, .int .i64 a, .string nm, .slice ta th.len tc, .slice ea el.len ec, .bool tw], .int .i64 m] w fun e w' => ∃ (o : Nat) (st' : RS), e = .returned (.int .i64 o) ∧ Run ts (.pce k a nm th el tw) m st o st' ∧ Chg p w w' ∧ WkOK w' p st'
theorem popc_more (m e : Nat) (he : e < 2 ^ 24) (h : m ||| e ≠ m) : popc m 24 + 1 ≤ popc (m ||| e) 24 := by
  obtain ⟨y, h1, h2, h3⟩ := or_new e m he (by rw [Nat.or_comm]; exact h)
  exact popc_strict m (m ||| e) 24 y (fun z hz => (bt_or _ _ _).2 (.inl hz)) h1 h3 ((bt_or _ _ _).2 (.inr h2))
set_option maxHeartbeats 1000000 in
theorem lps_ok (ts : List Tm) (b : Nds) (hb : ThrOK ts b) : LpsOK ts b := by
  intro w p A st m a c hm hE hW hz hS
  have HT := hidS hb
  have HE := hidS hE
  have HW := hidS hW
  have HZ := hidS hz
  have HS := hidS hS
  clear hb hE hW hz hS
  go_enter Tryz.func128, Tryz.ntmps128
  go_wp2
  go_loopw [1, 7] (fun sv _ wr => ∃ (m' : Nat) (st' : RS), sv = .int .i64 m' ∧ m' < 2 ^ 24 ∧ Hid (Chg p w wr) ∧ Hid (WkOK wr p st') ∧ Hid (∀ k, st'.en k < 2 ^ 24) ∧ Hid (∀ o st2, Run ts (.lps b) m' st' o st2 → Run ts (.lps b) m st o st2)) (fun sv _ _ => 24 - popc (intOf sv).toNat 24)
  case atStart => exact ⟨m, st, rfl, hm, Chg.refl _ _, HW.out, HZ.out, fun _ _ h => h⟩
  case round =>
    clear HW HZ
    obtain ⟨m', st', rfl, hm', HC, HW, HZ, HR⟩ := hrel
    have HS' : Hid (Slc wr A 102 (.slice a b.len c) b) := HS.out.mono (HE.out.keep HC.out) (fun _ q => q)
    have Hc := hidS (HT.out wr p A st' m' a c hm' (HE.out.mono HC.out) HW.out HZ.out HS'.out)
    go_wp2_with fail
    refine Hc.out.mono ?_
    rintro e w1 ⟨o, st1, rfl, hr, hc, hw⟩
    have HR1 := hidS hr
    obtain ⟨ho, hz1⟩ := run_lt hr hm' HZ.out
    have HZ1 := hidS hz1
    have HC1 : Hid (Chg p w w1) := HC.out.trans hc
    have HW1 := hidS hw
    have c4 := hw.c4
    have hor := or64 m' o (by omega) (by omega)
    have hol := or_lt24 hm' ho
    clear hr hc hw hz1 Hc
    cases hw1 : st1.wrong
    · rw [hw1] at c4
      by_cases heq : m' ||| o = m'
      · have HF : Hid (Run ts (.lps b) m st (m' ||| o) st1) := HR.out _ _ (.stop HR1.out (.inr heq))
        have hq : (bits .or .i64 (m' : Int) (o : Int) == (m' : Int)) = true := by rw [hor, heq]; simp
        generalize m' ||| o = M at *
        go_wp2
        go_ret
        exact ⟨M, st1, by first | rfl | (rw [heq]; rfl), HF.out, HC1.out, HW1.out⟩
      · have HF : Hid (∀ o' st2, Run ts (.lps b) (m' ||| o) st1 o' st2 → Run ts (.lps b) m st o' st2) := fun o' st2 h => HR.out _ _ (.more HR1.out h)
        have hpc := popc_more m' o ho heq
        have hpl := popc_le (m' ||| o) 24
        have hq : (bits .or .i64 (m' : Int) (o : Int) == (m' : Int)) = false := by rw [hor]; simp; omega
        generalize m' ||| o = M at *
        go_wp2
        exact ⟨⟨M, st1, rfl, hol, HC1.out, HW1.out, HZ1.out, HF.out⟩, by simp [intOf]; omega⟩
    · rw [hw1] at c4
      have HF : Hid (Run ts (.lps b) m st (m' ||| o) st1) := HR.out _ _ (.stop HR1.out (.inl hw1))
      generalize m' ||| o = M at *
      go_wp2
      go_ret
      exact ⟨M, st1, by first | rfl | (rw [heq]; rfl), HF.out, HC1.out, HW1.out⟩
theorem bod_at {ts : List Tm} (i : Nat) (hi : i < ts.length) : bod ts i = ts[i].body := by simp [bod, List.getElem?_eq_getElem hi]
theorem Chg.allocL {p : Wp} {w : World} (o : Obj) : Chg p w (w.alloc o) := (Chg.refl _ _).alloc o
theorem slc_chg {w w' : World} {p : Wp} {A : Nat → Prop} {ts : List Tm} {v : Value} {b : Nds} (hS : Slc w A 102 v b) (hE : Evn w p A ts) (hc : Chg p w w') : Slc w' A 102 v b := hS.mono (hE.keep hc) (fun _ q => q)
set_option maxHeartbeats 1000000 in
theorem pce_text (ts : List Tm) (a : Int) (nm : ByteArray) (th el : Nds) (tw : Bool) (hn : nm.size ≤ 400) : PceOK ts 1 a nm th el tw := by
  intro w p A st m ta ea tc ec hm hE hW hz hS hS2
  have HW := hidS hW
  have Hc := hidS (fun wx (hx : WkOK wx p st) => c116 m nm wx p st hm (by unfold maxLen; omega) hx)
  clear hE hW hz hS hS2
  generalize th.len = tl at *
  generalize el.len = eln at *
  go_enter Tryz.func112, Tryz.ntmps112
  go_wp2_with fail
  refine (Hc.out _ (HW.out.alloc _)).mono ?_
  rintro e w1 ⟨rfl, hc, hw⟩
  have HC : Hid (Chg p w w1) := (Chg.allocL _).trans hc
  have HW1 := hidS hw
  clear hc hw Hc
  go_wp2
  go_ret
  exact ⟨_, _, rfl, .text, HC.out, HW1.out⟩
set_option maxHeartbeats 1000000 in
theorem pce_hole (ts : List Tm) (a : Int) (nm : ByteArray) (th el : Nds) (tw : Bool) (ha : 0 ≤ a ∧ a ≤ 400) : PceOK ts 2 a nm th el tw := by
  intro w p A st m ta ea tc ec hm hE hW hz hS hS2
  have HW := hidS hW
  obtain ⟨n, rfl⟩ : ∃ n : Nat, a = n := ⟨a.toNat, by omega⟩
  have Hc := hidS (fun wx (hx : WkOK wx p st) => c117 m n wx p st hm (by omega) hx)
  clear hE hW hz hS hS2
  generalize th.len = tl at *
  generalize el.len = eln at *
  go_enter Tryz.func112, Tryz.ntmps112
  go_wp2_with fail
  refine (Hc.out _ (HW.out.alloc _)).mono ?_
  rintro e w1 ⟨rfl, hc, hw⟩
  have HC : Hid (Chg p w w1) := (Chg.allocL _).trans hc
  have HW1 := hidS hw
  clear hc hw Hc
  go_wp2
  go_ret
  exact ⟨_, _, rfl, .hole, HC.out, by simpa using HW1.out⟩
set_option maxHeartbeats 1000000 in
theorem pce_choice (ts : List Tm) (a : Int) (nm : ByteArray) (th el : Nds) (tw : Bool) (ht : ThrOK ts th) (he : ThrOK ts el) : PceOK ts 3 a nm th el tw := by
  intro w p A st m ta ea tc ec hm hE hW hz hS hS2
  have HW := hidS hW
  have HE := hidS hE
  have HS2 := hidS hS2
  have HZ := hidS hz
  have Hc := hidS (fun o => ht (w.alloc o) p A st m ta tc hm (hE.mono (Chg.allocL o)) (hW.alloc o) hz (slc_chg hS hE (Chg.allocL o)))
  have He := hidS he
  clear hE hW hz hS hS2
  generalize htl : th.len = tl at *
  generalize hel : el.len = eln at *
  have hzb : w.heap.size ≠ p.b ∧ w.heap.size ≠ p.gb ∧ w.heap.size ≠ p.ge ∧ w.heap.size ≠ p.gu := by have := HW.out.l0; have := HW.out.l1; have := HW.out.l2; have := HW.out.l3; omega
  go_enter Tryz.func112, Tryz.ntmps112
  go_wp2_with fail
  refine (Hc.out _).mono ?_
  rintro e w1 ⟨o, st1, rfl, hr, hc, hw⟩
  have hblk : w1.heap[w.heap.size]? = _ := hc.block w.heap.size (by simp) hzb.1 hzb.2.1 hzb.2.2.1 hzb.2.2.2
  have k4 := (World.cell?_of_block (a := ⟨w.heap.size, 4, none⟩) hblk).trans (by simp : _ = some (Value.slice ea eln ec))
  have k5 := (World.cell?_of_block (a := ⟨w.heap.size, 5, none⟩) hblk).trans (by simp : _ = some (Value.bool tw))
  have HC : Hid (Chg p w w1) := (Chg.allocL _).trans hc
  have HW1 := hidS hw
  have HR := hidS hr
  obtain ⟨ho, hz1⟩ := run_lt hr hm HZ.out
  have HZ1 := hidS hz1
  clear hc hw Hc hr hblk hz1
  cases tw
  · have hor := or64 o m (by omega) (by omega)
    go_wp2
    go_ret
    exact ⟨o ||| m, st1, rfl, .one HR.out, HC.out, HW1.out⟩
  · have Hc2 := hidS (He.out w1 p A st1 m ea ec hm (HE.out.mono HC.out) HW1.out HZ1.out (slc_chg (by rw [hel]; exact HS2.out) HE.out HC.out))
    rw [hel] at Hc2
    go_wp2_with fail
    refine Hc2.out.mono ?_
    rintro e w2 ⟨o2, st2, rfl, hr2, hc2, hw2⟩
    have HC2 : Hid (Chg p w w2) := HC.out.trans hc2
    have HW2 := hidS hw2
    have HR2 := hidS hr2
    obtain ⟨ho2, _⟩ := run_lt hr2 hm HZ1.out
    have hor := or64 o o2 (by omega) (by omega)
    clear hc2 hw2 hr2 k4 k5
    go_wp2
    go_ret
    exact ⟨o ||| o2, st2, rfl, .two HR.out HR2.out, HC2.out, HW2.out⟩
set_option maxHeartbeats 1000000 in
theorem pce_loop (ts : List Tm) (a : Int) (nm : ByteArray) (th el : Nds) (tw : Bool) (ht : LpsOK ts th) : PceOK ts 4 a nm th el tw := by
  intro w p A st m ta ea tc ec hm hE hW hz hS hS2
  have Hc := hidS (fun o => ht (w.alloc o) p A st m ta tc hm (hE.mono (Chg.allocL o)) (hW.alloc o) hz (slc_chg hS hE (Chg.allocL o)))
  clear hE hW hz hS hS2
  generalize htl : th.len = tl at *
  generalize hel : el.len = eln at *
  go_enter Tryz.func112, Tryz.ntmps112
  go_wp2_with fail
  refine (Hc.out _).mono ?_
  rintro e w1 ⟨o, st1, rfl, hr, hc, hw⟩
  have HC : Hid (Chg p w w1) := (Chg.allocL _).trans hc
  have HW1 := hidS hw
  have HR := hidS hr
  clear hc hw Hc hr
  go_wp2
  go_ret
  exact ⟨o, st1, rfl, .loop HR.out, HC.out, HW1.out⟩
theorem tm_drew {w : World} {A : Nat → Prop} {la : Option Addr} {lc : Nat} {ts : List Tm} (n : Nat) (h : SlcX w A 72 3 (.slice la ts.length lc) ts.length (RowT w A ts)) : TmAt (w.drewN n) A la ts :=
  tmAt (SlcX.mono (w' := w.drewN n) h (fun _ _ => rfl) (fun _ q => q) (fun xs => RowT.mono (w := w) (w' := w.drewN n) (fun _ _ => rfl) (fun _ q => q) ts xs))
set_option maxHeartbeats 1000000 in
theorem pce_call (ts : List Tm) (a : Int) (nm : ByteArray) (th el : Nds) (tw : Bool) (hn : 0 ≤ fndF nm ts 0) : PceOK ts 5 a nm th el tw := by
  intro w p A st m ta ea tc ec hm hE hW hz hS hS2
  have HW := hidS hW
  have hfr := fndF_range nm ts 0
  have htn : fndF nm ts 0 = ((tno ts nm : Nat) : Int) := by unfold tno; omega
  have c0 := hW.c0
  rw [hE.tl] at c0
  have Hf := hidS (fun wx (hx : TmAt wx A p.la ts) => c60 wx A p.la p.lc ts nm hE.six hx)
  have HTM := hidS (fun o n => tm_drew n (hE.mono (Chg.allocL o)).tm)
  have Hc := hidS (fun wx (hx : WkOK wx p st) => c119 m (tno ts nm) wx p st hm (by rw [hE.n]; omega) hz hx)
  rw [htn] at Hf
  have hl := hW.l0
  clear hE hW hz hS hS2
  generalize th.len = tl at *
  generalize el.len = eln at *
  go_enter Tryz.func112, Tryz.ntmps112
  have c0' : (w.alloc (.cells #[.int .i64 5, .int .i64 a, .string nm, .slice ta tl tc, .slice ea eln ec, .bool tw] 102)).cell? ⟨p.b, 0, none⟩ = some (.slice p.la ts.length p.lc) := (World.cell?_alloc_lt _ _ _ hl).trans c0
  have k2 : (w.alloc (.cells #[.int .i64 5, .int .i64 a, .string nm, .slice ta tl tc, .slice ea eln ec, .bool tw] 102)).cell? ⟨w.heap.size, 2, none⟩ = some (.string nm) := by simp
  clear c0
  go_wp2
  go_quiet ((go_at_call 32; refine Calls.quiet_of_same (Hf.out _ ?_); exact HTM.out _ _))
  go_wp2_with fail
  refine (Hc.out _ ((HW.out.alloc _).below (below_drewN (Below.refl _ _) _))).mono ?_
  rintro e w1 ⟨rfl, hc, hw⟩
  have HC : Hid (Chg p w w1) := ((Chg.allocL _).trans (Chg.of_below (below_drewN (Below.refl _ _) _))).trans hc
  have HW1 := hidS hw
  clear hc hw Hc
  go_wp2
  go_ret
  exact ⟨_, _, rfl, .call, HC.out, HW1.out⟩
end Go.Proofs.YtffkejkgkgfnhabGreat
namespace Go.Proofs.YtffkejkgkgfnhabGreat
open Go.RowKit
set_option linter.unusedVariables false
theorem pce_all (ts : List Tm) (k a : Int) (nm : ByteArray) (th el : Nds) (tw : Bool) (r : Nds) (hw : WfN ts (.cons k a nm th el tw r)) (ht : ThrOK ts th) (he : ThrOK ts el) : PceOK ts k a nm th el tw := by
  obtain ⟨hk, ha, hn, hc, _, _, _⟩ := hw
  rcases hk with rfl | rfl | rfl | rfl | rfl
  · exact pce_text ts a nm th el tw hn
  · exact pce_hole ts a nm th el tw ha
  · exact pce_choice ts a nm th el tw ht he
  · exact pce_loop ts a nm th el tw (lps_ok ts th ht)
  · exact pce_call ts a nm th el tw (hc rfl)
theorem drop_zero (b : Nds) : b.drop 0 = b := by cases b <;> rfl
set_option maxHeartbeats 1000000 in
theorem thr_nil (ts : List Tm) : ThrOK ts .nil := by
  intro w p A st m a c hm hE hW hz hS
  have Hc := hidS (c108 m w p st hm hW)
  clear hE hW hz hS
  show Calls Tryz.prog 90 #[.pointer (some ⟨p.b, 0, none⟩), .slice a 0 c, .int .i64 m] w _
  go_enter Tryz.func90, Tryz.ntmps90
  go_wp2
  refine wp_loop_rounds 1 ?_
  rw [rounds_succ]
  go_wp2_with fail
  refine Hc.out.mono ?_
  rintro e w1 ⟨rfl, hc, hw⟩
  have HC := hidS hc
  have HW := hidS hw
  clear hc hw Hc
  go_wp2
  go_ret
  exact ⟨m, _, rfl, .nil, HC.out, HW.out⟩
set_option maxHeartbeats 2000000 in
theorem thr_ok (ts : List Tm) (n : Nat) : ∀ (b : Nds), b.sz < n → b.sz ≤ 1000 → WfN ts b → ThrOK ts b := by
  induction n with
  | zero => intro b h; omega
  | succ n ih =>
    intro b hsz h1000 hwf w p A st m a c hm hE hW hz hS
    have hll := len_sz b
    have hlb : b.len ≤ 1000 := by omega
    obtain ⟨_, h0 | ⟨g, rfl, _⟩⟩ := ndAt hS
    · have hn : b = .nil := by
        cases b with
        | nil => rfl
        | cons => simp [Nds.len] at h0
      subst hn
      exact thr_nil ts w p A st m a c hm hE hW hz hS
    · have HE := hidS hE
      have HW := hidS hW
      have HZ := hidS hz
      have HS := hidS hS
      have HI := hidS ih
      have HWF := hidS hwf
      clear hE hW hz hS ih hwf
      go_enter Tryz.func90, Tryz.ntmps90
      go_wp2
      go_loopw [2, 7] (fun sv iv wr => ∃ (k m' : Nat) (st' : RS), k ≤ b.len ∧ iv = .int .i64 k ∧ sv = .int .i64 m' ∧ m' < 2 ^ 24 ∧ Hid (Chg p w wr) ∧ Hid (WkOK wr p st') ∧ Hid (∀ j, st'.en j < 2 ^ 24) ∧ Hid (∀ o st2, Run ts (.thr (b.drop k)) m' st' o st2 → Run ts (.thr b) m st o st2)) (fun _ iv _ => b.len - (intOf iv).toNat)
      case atStart => exact ⟨0, m, st, Nat.zero_le _, rfl, rfl, hm, Chg.refl _ _, HW.out, HZ.out, fun o st2 h => by rwa [drop_zero] at h⟩
      case round =>
        clear HW HZ
        obtain ⟨k, m', st', hk, rfl, rfl, hm', HC, HW, HZ, HR⟩ := hrel
        by_cases hlt : k < b.len
        · have hS' : Slc wr A 102 (.slice (some ⟨g, 0, none⟩) b.len c) b := slc_chg HS.out HE.out HC.out
          have Hpl := hidS (c108 m' wr p st' hm' HW.out)
          have HS' := hidS hS'
          have hE' := HE.out.mono HC.out
          have HE' := hidS hE'
          clear hS' hE'
          go_wp2_with fail
          refine Hpl.out.mono ?_
          rintro e w1 ⟨rfl, hc, hw⟩
          have hS1 := slc_chg HS'.out HE'.out hc
          obtain ⟨_, h0 | ⟨g', hg', hat⟩⟩ := ndAt hS1
          · omega
          · cases hg'
            obtain ⟨kd, ap, nm, th, el, tw, r, ta, ea, tc, ec, e1, e2, c0, c1, c2, c3, c4, s1, s2, z1, z2, c5⟩ := hat k hlt
            have hwn : WfN ts (.cons kd ap nm th el tw r) := by rw [← e1]; exact WfN.drop b k HWF.out
            have Hp := hidS (pce_all ts kd ap nm th el tw r hwn (HI.out th (by omega) (by omega) hwn.2.2.2.2.1) (HI.out el (by omega) (by omega) hwn.2.2.2.2.2.1) w1 p A (placeR m' st') m' ta ea tc ec hm' (HE'.out.mono hc) hw HZ.out s1 s2)
            have HC1 : Hid (Chg p w w1) := HC.out.trans hc
            have HRN : Hid (∀ m1 st1, Run ts (.pce kd ap nm th el tw) m' (placeR m' st') m1 st1 → ∀ o st2, Run ts (.thr (b.drop (k + 1))) m1 st1 o st2 → Run ts (.thr b) m st o st2) := by
              intro m1 st1 h1 o st2 h2
              refine HR.out o st2 ?_
              rw [e1]; rw [e2] at h2
              exact .cons h1 h2
            clear s1 s2 z1 z2 e1 e2 hat hS1 hc hw hwn Hpl
            generalize th.len = tl at *
            generalize el.len = eln at *
            go_wp2_with fail
            refine Hp.out.mono ?_
            rintro e w2 ⟨o, st1, rfl, hr, hc2, hw2⟩
            obtain ⟨ho, hz1⟩ := run_lt hr hm' HZ.out
            have HF := hidS (HRN.out o st1 hr)
            have HC2 : Hid (Chg p w w2) := HC1.out.trans hc2
            have HW2 := hidS hw2
            have HZ1 := hidS hz1
            clear hr hc2 hw2 hz1 Hp c0 c1 c2 c3 c4 c5
            go_wp2
            exact ⟨⟨k + 1, o, st1, by omega, by go_num, rfl, ho, HC2.out, HW2.out, HZ1.out, HF.out⟩, by simp [intOf]; omega⟩
        · have Hpl := hidS (c108 m' wr p st' hm' HW.out)
          have HF : Hid (Run ts (.thr b) m st m' (placeR m' st')) := HR.out _ _ (by rw [drop_nil b k (by omega)]; exact .nil)
          go_wp2_with fail
          refine Hpl.out.mono ?_
          rintro e w1 ⟨rfl, hc, hw⟩
          have HC1 : Hid (Chg p w w1) := HC.out.trans hc
          have HW1 := hidS hw
          clear hc hw Hpl
          go_wp2
          go_ret
          exact ⟨m', _, rfl, HF.out, HC1.out, HW1.out⟩
end Go.Proofs.YtffkejkgkgfnhabGreat
namespace Go.Proofs.YtffkejkgkgfnhabGreat
open Go.RowKit
set_option linter.unusedVariables false
def WfT (ts : List Tm) : Prop := ∀ i (hi : i < ts.length), WfN ts ts[i].body ∧ ts[i].body.sz ≤ 1000
theorem tm_body {w : World} {A : Nat → Prop} {a : Option Addr} {c : Nat} {ts : List Tm} (h : SlcX w A 72 3 (.slice a ts.length c) ts.length (RowT w A ts)) (i : Nat) (hi : i < ts.length) : ∃ g ba bc, a = some ⟨g, 0, none⟩ ∧ A g ∧ w.cell? ⟨g, i * 3 + 2, none⟩ = some (.slice ba ts[i].body.len bc) ∧ Slc w A 102 (.slice ba ts[i].body.len bc) ts[i].body := by
  have hA : ∀ g, a = some ⟨g, 0, none⟩ → A g := by
    rcases h with ⟨_, h0, _⟩ | ⟨g, cap, cur, hv, hA, _⟩
    · omega
    · intro g' hg'
      simp at hv
      rw [hv.1] at hg'
      cases hg'
      exact hA
  rcases tmAt h with h0 | ⟨g, rfl, hat⟩
  · omega
  · obtain ⟨_, _, ba, bn, bc, h1, h2⟩ := hat i hi
    obtain ⟨hn, _⟩ := ndAt h2
    subst hn
    exact ⟨g, ba, bc, rfl, hA g rfl, h1, h2⟩
theorem shlW (y : Nat) (h : y < 24) : IntKind.i64.wrap ((2 : Int) ^ y) = ((2 ^ y : Nat) : Int) := by
  have h1 := pow24 y h
  have e : ((2 : Int) ^ y) = ((2 ^ y : Nat) : Int) := by simp
  rw [e]
  generalize 2 ^ y = z at *
  rw [IntKind.wrap_i64]
  omega
theorem below_drew (w : World) : Below w.heap.size w w.drew := below_drewN (Below.refl _ _) 1
set_option maxRecDepth 100000 in
set_option maxHeartbeats 2000000 in
theorem w75 (ts : List Tm) (w : World) (p : Wp) (A : Nat → Prop) (st : RS) (hE : Evn w p A ts) (hW : WkOK w p st) (hz : ∀ j, st.en j < 2 ^ 24) (hT : WfT ts) :
    Calls Tryz.prog 73 #[.pointer (some ⟨p.b, 0, none⟩)] w fun e w' => ∃ st', e = .returned (.tuple #[]) ∧ Rnd ts st (ts.length * 24) st' ∧ Chg p w w' ∧ WkOK w' p st' := by
  have HE := hidS hE
  have HW := hidS hW
  have HZ := hidS hz
  have HT := hidS hT
  have hn := hE.n
  have h6 := hE.six
  have htl := hE.tl
  clear hE hW hz hT
  go_enter Tryz.func73, Tryz.ntmps73
  go_wp2
  go_loopw [2, 3] (fun kv _ wr => ∃ (k : Nat) (st' : RS), k ≤ ts.length * 24 ∧ kv = .int .i64 k ∧ Hid (Chg p w wr) ∧ Hid (WkOK wr p st') ∧ Hid (∀ j, st'.en j < 2 ^ 24) ∧ Hid (Rnd ts st k st')) (fun kv _ _ => ts.length * 24 - (intOf kv).toNat)
  case atStart => exact ⟨0, st, Nat.zero_le _, rfl, Chg.refl _ _, HW.out, HZ.out, .zero⟩
  case round =>
    clear HW HZ
    obtain ⟨k, st', hk, rfl, HC, HW, HZ, HR⟩ := hrel
    have c1 := HW.out.c1
    have c2 := HW.out.c2
    have c0 := HW.out.c0
    rw [hn] at c1 c2
    rw [htl] at c0
    by_cases hlt : k < ts.length * 24
    · obtain ⟨cb, _⟩ := HW.out.beg k (by omega)
      obtain ⟨ce, _⟩ := HW.out.en k (by omega)
      cases hb : st'.beg k
      · have HF : Hid (Rnd ts st (k + 1) st') := .skip HR.out hb
        rw [hb] at cb
        go_wp2
        exact ⟨⟨k + 1, st', by omega, by go_num, HC.out, HW.out, HZ.out, HF.out⟩, by simp [intOf]; omega⟩
      · have hi : k / 24 < ts.length := by omega
        have hE' := HE.out.mono HC.out
        obtain ⟨g, ba, bc, hla, hAg, ct, hSb⟩ := tm_body hE'.tm (k / 24) hi
        have hTb := HT.out (k / 24) hi
        have Hc := hidS (thr_ok ts 1001 ts[k / 24].body (by omega) hTb.2 hTb.1 wr.drew p A st' (2 ^ (k % 24)) ba bc (pow_lt24 k) (hE'.mono (Chg.of_below (below_drew wr))) (HW.out.below (below_drew wr)) HZ.out (slc_chg hSb hE' (Chg.of_below (p := p) (below_drew wr))))
        have HK : Hid (∀ w1, Chg p wr.drew w1 → w1.heap[g]? = wr.heap[g]?) := fun w1 h => (hE'.mono (Chg.of_below (below_drew wr))).keep h g hAg
        rw [← bod_at (k / 24) hi] at Hc ct
        rw [hb] at cb
        rw [hla] at c0
        have hp24 := pow_lt24 k
        have HB := hidS hb
        generalize (bod ts (k / 24)).len = bl at *
        clear hE' hSb hTb hb
        have q1 : IntKind.i64.wrap ((k : Int) / 24) = ((k / 24 : Nat) : Int) := by
          have : ((k / 24 : Nat) : Int) = (k : Int) / 24 := by omega
          rw [this, IntKind.wrap_i64]; omega
        have q2 : (k : Int).tmod 24 = ((k % 24 : Nat) : Int) := by rw [Int.tmod_eq_emod_of_nonneg (by omega)]; omega
        have q3 := shlW (k % 24) (Nat.mod_lt _ (by decide))
        have i3 : k % 24 < 24 := Nat.mod_lt _ (by decide)
        generalize ht : k / 24 = t at *
        generalize hx : k % 24 = x at *
        generalize hM : 2 ^ x = M at *
        have i1 : (t : Int) < (ts.length : Int) := by omega
        have i2 : (x : Int) ≤ 64 := by omega
        have i4 : (0 : Int) ≤ (t : Int) := by omega
        have i5 : (0 : Int) ≤ (x : Int) := by omega
        go_wp2
        go_region_held3 (fun w' => w'.cell? ⟨p.b, 0, none⟩ = some (.slice (some ⟨g, 0, none⟩) ts.length p.lc) ∧ w'.cell? ⟨g, t * 3 + 2, none⟩ = some (.slice ba bl bc)) (go_keep)
          (first | (go_at_call 90; refine Hc.out.mono ?_; clear Hc; rintro e w1 ⟨o, st1, rfl, hr, hc, hw⟩; have k0 := hw.c0; rw [htl, hla] at k0; have kt := (World.cell?_of_block (a := ⟨g, t * 3 + 2, none⟩) (HK.out w1 hc)).trans ct; have HR1 := hidS hr; have HC1 := hidS hc; have HW1 := hidS hw; clear hr hc hw HK ct c0 c1 c2 cb ce))
        clear q1 q2 q3 i1 i2 i4 i5
        subst hM ht hx
        obtain ⟨ho, hz1⟩ := run_lt HR1.out hp24 HZ.out
        have HZ1 := hidS hz1
        have HC2 : Hid (Chg p w w1) := (HC.out.trans (Chg.of_below (below_drew wr))).trans HC1.out
        have d2 := HW1.out.c2
        rw [hn] at d2
        obtain ⟨de, fe⟩ := HW1.out.en k (by omega)
        have d5 := HW1.out.c5
        have f5 := HW1.out.f5
        have n2 := HW1.out.n2
        have hE1 := hz1 k
        have hor := or64 o (st1.en k) (by omega) (by omega)
        have hor2 := or64 (st1.en k) o (by omega) (by omega)
        clear hz1 kt k0
        by_cases heq : o ||| st1.en k = st1.en k
        · have HF : Hid (Rnd ts st (k + 1) st1) := .same HR.out HB.out HR1.out heq
          have hq : (bits .or .i64 (o : Int) (st1.en k : Int) != (st1.en k : Int)) = false := by rw [hor, heq]; simp
          clear hor hor2
          go_wp2
          go_quiet (fail)
          go_wp2
          exact ⟨⟨k + 1, st1, by omega, by go_num, HC2.out.trans (Chg.of_below (below_drewN (Below.refl _ _) _)), HW1.out.below (below_drewN (Below.refl _ _) _), HZ1.out, HF.out⟩, by simp [intOf]; omega⟩
        · have HF : Hid (Rnd ts st (k + 1) { st1 with en := updN st1.en k (st1.en k ||| o), new := true }) := .grow HR.out HB.out HR1.out heq
          have hq : (bits .or .i64 (o : Int) (st1.en k : Int) != (st1.en k : Int)) = true := by rw [hor]; simp; omega
          have HZ2 : Hid (∀ j, updN st1.en k (st1.en k ||| o) j < 2 ^ 24) := by
            intro j; unfold updN; split
            · exact or_lt24 hE1 ho
            · exact HZ1.out j
          have q5 : ∀ m, ((w1.drewN m).setCell ⟨p.ge, k, none⟩ (.int .i64 (st1.en k ||| o : Nat))).cell? ⟨p.b, 5, none⟩ = some (.bool st1.new) := fun m => (cellF _ _ _ _ _ _ n2).trans d5
          clear hor
          generalize hOO : st1.en k ||| o = OO at *
          go_wp2
          go_quiet (fail)
          go_wp2
          go_region
          go_wp2
          refine ⟨⟨k + 1, { st1 with en := updN st1.en k OO, new := true }, by omega, by go_num, ?_, ?_, HZ2.out, HF.out⟩, by simp [intOf]; omega⟩
          · exact ((HC2.out.trans (Chg.of_below (below_drewN (Below.refl _ _) _))).set _ _ _ (.inr (.inr (.inl rfl)))).set _ _ _ (.inl rfl)
          · exact ((HW1.out.below (below_drewN (Below.refl _ _) _)).setEn k _ (by omega)).setNew true
    · go_wp2
      go_end0
      have e : k = ts.length * 24 := by omega
      subst e
      exact ⟨st', rfl, HR.out, HC.out, HW.out⟩
end Go.Proofs.YtffkejkgkgfnhabGreat
