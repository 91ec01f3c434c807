import Derived.Test.YtffkejkgkgfnhabGreatG23
import Derived.Test.YtffkejkgkgfnhabGreatG25
import Derived.Test.YtffkejkgkgfnhabGreatG28
import Derived.Test.YtffkejkgkgfnhabGreatG07
import Derived.Test.YtffkejkgkgfnhabGreatG14
namespace Go.Proofs.YtffkejkgkgfnhabGreat
open Go.ChangeShapes Go.WideShapes Go.ChangeAt Go.RowKit Go.Deep
set_option linter.unusedVariables false
set_option maxHeartbeats 1000000 in
theorem c14ren (hP : PROK 26) (p : Value) (n : Int) (s t : ByteArray) (w : World) (da : Option Addr) (d : Dat) (dc : Nat) (hs : s.size ≤ maxLen) (hV : DatV w w.heap.size da d) (hok : d.ok false) (hbk : d.bulk ≤ 1048576) (hlc : d.len ≤ dc) (hdc : dc ≤ maxLen) :
    Calls Tryz.prog 5 #[p, .agg #[.int .i64 5, .int .i64 n, .string s, .string t, .slice da d.len dc]] w fun e w' => e = .returned (.bool true) ∧ Below w.heap.size w w' := by
  have Hc := hidS (fun o => l17 hP (w.alloc o) 5 n s t da d dc hs (DatV.mono hV (by simp) (fun q hq => Below.heap_alloc _ _ _ hq)) hok hbk hlc hdc)
  clear hV hok hbk hP
  generalize d.len = dl at *
  go_enter Tryz.func5, Tryz.ntmps5
  go_wp2_with fail
  refine (Hc.out _).mono ?_
  clear Hc
  rintro e w1 ⟨rfl, hb⟩
  have HB : Hid (Below w.heap.size w w1) := ((Below.refl _ _).alloc (Nat.le_refl _) _).trans (hb.mono (by simp))
  clear hb
  go_wp2
  go_ret
  exact ⟨rfl, HB.out⟩
/-- one step of a script is as it should be, whatever its kind -/
theorem plays_ok (hW : PWOK 22) (hR : PROK 26) (w : World) (wb : Nat) (ha : Option Addr) (hc : Nat) (hs : List Hd) (k n : Int) (s t : ByteArray) (d : Value) (hk : 1 ≤ k ∧ k ≤ 5) (hsz : s.size ≤ 1048576) (hl : hs.length ≤ 4500000) (hWd : WdOK w wb ha hc hs) (hD : DatOf w false d 1048577) :
    Calls Tryz.prog 5 #[.pointer (some ⟨wb, 0, none⟩), .agg #[.int .i64 k, .int .i64 n, .string s, .string t, d]] w fun e w' => e = .returned (.bool true) ∧ Below wb w w' ∧ ∃ ha' hc' hs', hs'.length ≤ hs.length + 4 ∧ WdOK w' wb ha' hc' hs' := by
  have hm : s.size ≤ maxLen := by unfold maxLen; omega
  have keep : ∀ (e : Ending) (w' : World), (e = .returned (.bool true) ∧ Below w.heap.size w w') → e = .returned (.bool true) ∧ Below wb w w' ∧ ∃ ha' hc' hs', hs'.length ≤ hs.length + 4 ∧ WdOK w' wb ha' hc' hs' := by
    rintro e w' ⟨h1, h2⟩
    exact ⟨h1, h2.mono (Nat.le_of_lt hWd.lt), ha, hc, hs, by omega, hWd.below h2⟩
  have hkk : k = 1 ∨ k = 2 ∨ k = 3 ∨ k = 4 ∨ k = 5 := by omega
  rcases hkk with rfl | rfl | rfl | rfl | rfl
  · exact (c14chk _ n s t d w hm).mono keep
  · exact (c14scan _ n s t d w hm).mono keep
  · exact (c14esc _ n s t d w hsz).mono keep
  · refine (w8 hW w wb ha hc hs n s t d hm hl hWd).mono ?_
    rintro e w' ⟨h1, h2, ha', hc', hs', h3, h4⟩
    exact ⟨h1, h2, ha', hc', hs', by omega, h4⟩
  · obtain ⟨a, dd, c, rfl, h1, h2, h3, h4, h5⟩ := hD
    exact (c14ren hR _ n s t w a dd c hm h4 h1 (by omega) h2 h3).mono keep
theorem DatOf.below {w w' : World} {b : Bool} {v : Value} {B : Nat} (h : DatOf w b v B) (hb : Below w.heap.size w w') : DatOf w' b v B := by
  obtain ⟨a, d, c, h0, h1, h2, h3, h4, h5⟩ := h
  exact ⟨a, d, c, h0, h1, h2, h3, DatV.mono h4 hb.size (fun q hq => hb.block q hq), h5⟩
set_option maxHeartbeats 2000000 in
theorem u7 (hW : PWOK 22) (hR : PROK 26) (lo hi : Int) (hlo : 1 ≤ lo) (hhi : hi ≤ 5) (w : World) (b off len cap : Nat) (hlen : len ≤ 1048576) (Kd Nn : Nat → Int) (Ss Ts : Nat → ByteArray) (Ds : Nat → Value) (hb : b < w.heap.size)
  (hc0 : ∀ i, i < len → w.cell? ⟨b, off + i * 5, none⟩ = some (.int .i64 (Kd i)))
  (hc1 : ∀ i, i < len → w.cell? ⟨b, off + i * 5 + 1, none⟩ = some (.int .i64 (Nn i)))
  (hc2 : ∀ i, i < len → w.cell? ⟨b, off + i * 5 + 2, none⟩ = some (.string (Ss i)))
  (hc3 : ∀ i, i < len → w.cell? ⟨b, off + i * 5 + 3, none⟩ = some (.string (Ts i)))
  (hc4 : ∀ i, i < len → w.cell? ⟨b, off + i * 5 + 4, none⟩ = some (Ds i)) (hG : ∀ i, i < len → (Ss i).size ≤ 1048576 ∧ DatOf w false (Ds i) 1048577) :
    Calls Tryz.prog 4 #[.slice (some ⟨b, off, none⟩) len cap, .int .i64 lo, .int .i64 hi] w fun e w' => e = .returned (.int .i64 (-1)) ∧ Below w.heap.size w w' := by
  have H0 := hidS hc0; have H1 := hidS hc1; have H2 := hidS hc2; have H3 := hidS hc3; have H4 := hidS hc4; have HG := hidS hG
  have HW := hidS hW
  have HRr := hidS hR
  clear hc0 hc1 hc2 hc3 hc4 hG hW hR
  go_enter Tryz.func4, Tryz.ntmps4
  go_wp2
  go_loopw [8, 9, 10] (fun i _ _ wr => ∃ (k : Nat) (ha : Option Addr) (hc : Nat) (hs : List Hd), k ≤ len ∧ i = .int .i64 k ∧ hs.length ≤ 4 * k ∧ Hid (WdOK wr w.heap.size ha hc hs) ∧ Hid (Below w.heap.size w wr)) (fun i _ _ _ => len - (intOf i).toNat)
  case atStart => exact ⟨0, none, 0, [], Nat.zero_le _, rfl, by simp, wd0 w, (Below.refl _ _).alloc (Nat.le_refl _) _⟩
  case round =>
    obtain ⟨k, ha, hc, hs, hk, rfl, hhl, HWd, HB⟩ := hrel
    by_cases hlt : k < len
    · have old : ∀ o v, w.cell? ⟨b, o, none⟩ = some v → wr.cell? ⟨b, o, none⟩ = some v := fun o v h => (HB.out.cell (p := ⟨b, o, none⟩) hb).trans h
      have k0 := old _ _ (H0.out k hlt)
      have k1 := old _ _ (H1.out k hlt)
      have k2 := old _ _ (H2.out k hlt)
      have k3 := old _ _ (H3.out k hlt)
      have k4 := old _ _ (H4.out k hlt)
      obtain ⟨hg1, hg2⟩ := HG.out k hlt
      clear old
      by_cases hlo1 : Kd k < lo
      · clear k1 k2 k3 k4 hg2
        go_wp2
        exact ⟨⟨k + 1, ha, hc, hs, by omega, by go_num, by omega, HWd.out, HB.out⟩, by simp [intOf]; omega⟩
      · by_cases hhi1 : hi < Kd k
        · clear k1 k2 k3 k4 hg2
          go_wp2
          exact ⟨⟨k + 1, ha, hc, hs, by omega, by go_num, by omega, HWd.out, HB.out⟩, by simp [intOf]; omega⟩
        · have Hc := hidS (plays_ok HW.out HRr.out wr w.heap.size ha hc hs (Kd k) (Nn k) (Ss k) (Ts k) (Ds k) (by omega) hg1 (by omega) HWd.out (hg2.below HB.out))
          clear hg2
          go_wp2_with fail
          refine Hc.out.mono ?_
          rintro e w2 ⟨rfl, hb2, ha', hc', hs', hh, hw⟩
          have HB2 : Hid (Below w.heap.size w w2) := HB.out.trans hb2
          have Hl := hidS (c9L w2 w.heap.size ha' hc' hs' (by omega) hw)
          have HW2 := hidS hw
          clear k0 k1 k2 k3 k4 hb2 hw Hc HWd
          go_wp2_with fail
          refine Hl.out.mono ?_
          rintro e w3 ⟨rfl, hb3⟩
          have HW3 := hidS (HW2.out.below hb3)
          have HB3 : Hid (Below w.heap.size w w3) := HB2.out.trans (hb3.mono HB2.out.size)
          clear hb3 Hl HW2
          go_wp2
          exact ⟨⟨k + 1, ha', hc', hs', by omega, by go_num, by omega, HW3.out, HB3.out⟩, by simp [intOf]; omega⟩
    · go_wp2
      go_ret
      exact ⟨rfl, HB.out⟩
/-- WHAT THE WALK IS TOLD OF A SCRIPT WITH ITS DATA. -/
def IsOpsD (w : World) (a : Option Addr) (len : Nat) : Prop :=
  len = 0 ∨ ∃ (b off : Nat) (Kd Nn : Nat → Int) (Ss Ts : Nat → ByteArray) (Ds : Nat → Value), a = some ⟨b, off, none⟩ ∧ b < w.heap.size ∧
    (∀ i, i < len → w.cell? ⟨b, off + i * 5, none⟩ = some (.int .i64 (Kd i))) ∧
    (∀ i, i < len → w.cell? ⟨b, off + i * 5 + 1, none⟩ = some (.int .i64 (Nn i))) ∧
    (∀ i, i < len → w.cell? ⟨b, off + i * 5 + 2, none⟩ = some (.string (Ss i))) ∧
    (∀ i, i < len → w.cell? ⟨b, off + i * 5 + 3, none⟩ = some (.string (Ts i))) ∧
    (∀ i, i < len → w.cell? ⟨b, off + i * 5 + 4, none⟩ = some (Ds i)) ∧ (∀ i, i < len → (Ss i).size ≤ 1048576 ∧ DatOf w false (Ds i) 1048577)
theorem open_opD {H : Type} {enc : TypeId × Value → H} {w : World} {fuel : Nat} {cs : List Value} {x : DataW H × List MemPlace} (hB : Rows.uptoBulk x.1 ≤ 1048576)
    (h : DataW.trod enc Tryz.prog w 0 (fun _ => true) true fuel 33 cs = some x) :
    ∃ (k n : Int) (s t : ByteArray) (d : Value), cs = [.int .i64 k, .int .i64 n, .string s, .string t, d] ∧ s.size ≤ 1048576 ∧ DatOf w false d 1048577 := by
  obtain ⟨xs, m, _, rfl, hl, hlen, hf⟩ := DataW.trod_struct Tryz.underlying33 h
  rw [cells42] at hl
  obtain ⟨c0, c1, c2, c3, c4, rfl⟩ := five cs hl
  obtain ⟨x0, x1, x2, x3, x4, rfl⟩ := five xs hlen
  have f0 : DataW.trod enc Tryz.prog w 0 (fun _ => true) true m 3 (([c0, c1, c2, c3, c4].drop 0).take (Tryz.prog.cellsOf 3)) = some x0 := hf 0 _ rfl
  have f1 : DataW.trod enc Tryz.prog w 0 (fun _ => true) true m 3 (([c0, c1, c2, c3, c4].drop 1).take (Tryz.prog.cellsOf 3)) = some x1 := hf 1 _ rfl
  have f2 : DataW.trod enc Tryz.prog w 0 (fun _ => true) true m 9 (([c0, c1, c2, c3, c4].drop 2).take (Tryz.prog.cellsOf 9)) = some x2 := hf 2 _ rfl
  have f3 : DataW.trod enc Tryz.prog w 0 (fun _ => true) true m 9 (([c0, c1, c2, c3, c4].drop 3).take (Tryz.prog.cellsOf 9)) = some x3 := hf 3 _ rfl
  have f4 : DataW.trod enc Tryz.prog w 0 (fun _ => true) true m 31 (([c0, c1, c2, c3, c4].drop 4).take (Tryz.prog.cellsOf 31)) = some x4 := hf 4 _ rfl
  rw [cells3] at f0 f1
  rw [cells9] at f2 f3
  rw [cellsR] at f4
  obtain ⟨k, e0, rfl, _⟩ := DataW.trod_int Tryz.underlying3 f0
  obtain ⟨n, e1, rfl, _⟩ := DataW.trod_int Tryz.underlying3 f1
  obtain ⟨s, e2, rfl, hs⟩ := DataW.trod_string Tryz.underlying9 f2
  obtain ⟨t, e3, rfl, ht⟩ := DataW.trod_string Tryz.underlying9 f3
  simp at e0 e1 e2 e3
  subst e0 e1 e2 e3
  obtain ⟨fv, m', x5, hfv, h5, hb5⟩ := open_rw f4
  simp at hfv
  subst hfv
  simp [Rows.uptoBulk, Rows.uptoBulkAll] at hB
  have hsz : s.size ≤ 1048576 := by
    have : s.data.size = s.size := rfl
    omega
  refine ⟨k, n, s, t, c4, rfl, hsz, ?_⟩
  obtain ⟨a, d, c, q0, q1, q2, q3, q4, q5⟩ := (open_dat 1048576 m' c4 x5 (by omega)).1 h5
  exact ⟨a, d, c, q0, q1, q2, q3, q4, by omega⟩
theorem open_opsD {H : Type} {enc : TypeId × Value → H} {w : World} {fuel len cap : Nat} {a : Option Addr} {x : DataW H × List MemPlace} (hB : Rows.uptoBulk x.1 ≤ 1048576)
    (h : DataW.trod enc Tryz.prog w 0 (fun _ => true) true fuel 22 [.slice a len cap] = some x) : IsOpsD w a len := by
  rcases open_slice Tryz.underlying22 h with ⟨hcs, _⟩ | ⟨a', len', cap', m, n, D, Pl, hcs, _, hl, hm, hmm, hx, hall⟩
  · simp at hcs
    obtain ⟨rfl, rfl, rfl⟩ := hcs
    exact .inl rfl
  · simp at hcs
    obtain ⟨rfl, rfl, rfl⟩ := hcs
    by_cases h0 : len = 0
    · exact .inl h0
    right
    simp at hmm
    subst hmm
    rw [cells42] at hall
    rw [hx] at hB
    simp only [Rows.uptoBulk] at hB
    have hop : ∀ i, i < len → ∃ q : Int × Int × ByteArray × ByteArray × Value, (∀ j, j < 5 → w.cell? ((a'.add (i * 5)).add j) = [Value.int .i64 q.1, .int .i64 q.2.1, .string q.2.2.1, .string q.2.2.2.1, q.2.2.2.2][j]?) ∧ q.2.2.1.size ≤ 1048576 ∧ DatOf w false q.2.2.2.2 1048577 := by
      intro i hi
      obtain ⟨cs', hc, ht⟩ := hall i (by omega)
      have hDi : Rows.uptoBulk (D i) ≤ Rows.uptoBulkAll ((List.range len).map D) := bulk_mem _ _ (List.mem_map.2 ⟨i, List.mem_range.2 hi, rfl⟩)
      obtain ⟨k, n, s, t, d, rfl, hs, hd⟩ := open_opD (by simp only; omega) ht
      exact ⟨(k, n, s, t, d), (World.cells?_some hc).2.2, hs, hd⟩
    obtain ⟨f, hf⟩ := choose_lt hop
    obtain ⟨b, off, spot⟩ := a'
    have hspot : spot = none := by
      have := (hf 0 (by omega)).1 0 (by omega)
      simp [Addr.add] at this
      simpa using World.cell?_spot this
    subst hspot
    have hb : b < w.heap.size := by
      have := (hall 0 (by omega))
      obtain ⟨cs', hc, _⟩ := this
      have := World.cells?_block hc (by omega)
      simpa [Addr.add] using this
    have hcc := fun i (hi : i < len) => at_cells (hf i hi).1
    refine ⟨b, off, fun i => (f i).1, fun i => (f i).2.1, fun i => (f i).2.2.1, fun i => (f i).2.2.2.1, fun i => (f i).2.2.2.2, rfl, hb, ?_, ?_, ?_, ?_, ?_, ?_⟩
    · intro i hi; exact hcc i hi 0 (by omega)
    · intro i hi; exact hcc i hi 1 (by omega)
    · intro i hi; exact hcc i hi 2 (by omega)
    · intro i hi; exact hcc i hi 3 (by omega)
    · intro i hi; exact hcc i hi 4 (by omega)
    · intro i hi; exact ⟨(hf i hi).2.1, (hf i hi).2.2⟩
set_option maxHeartbeats 400000 in
theorem u7nil (lo hi : Int) (a : Option Addr) (cap : Nat) (w : World) :
    Calls Tryz.prog 4 #[.slice a 0 cap, .int .i64 lo, .int .i64 hi] w fun e w' => e = .returned (.int .i64 (-1)) ∧ Below w.heap.size w w' := by
  go_enter Tryz.func4, Tryz.ntmps4
  go_wp2
  refine wp_loop_rounds 1 ?_
  rw [rounds_succ]
  go_wp2
  go_ret
  exact ⟨rfl, (Below.refl _ _).alloc (Nat.le_refl _) _⟩
/-- UpTo, over a script as the claim has it -/
theorem u7ops (hW : PWOK 22) (hR : PROK 26) (lo hi : Int) (hlo : 1 ≤ lo) (hhi : hi ≤ 5) (w : World) (a : Option Addr) (len cap : Nat) (hlen : len ≤ 1048576) (h : IsOpsD w a len) :
    Calls Tryz.prog 4 #[.slice a len cap, .int .i64 lo, .int .i64 hi] w fun e w' => e = .returned (.int .i64 (-1)) ∧ Below w.heap.size w w' := by
  rcases h with rfl | ⟨b, off, Kd, Nn, Ss, Ts, Ds, rfl, hb, h0, h1, h2, h3, h4, hG⟩
  · exact u7nil lo hi a cap w
  · exact u7 hW hR lo hi hlo hhi w b off len cap hlen Kd Nn Ss Ts Ds hb h0 h1 h2 h3 h4 hG
end Go.Proofs.YtffkejkgkgfnhabGreat
/-
  WHERE WALKS FIND NOTHING WRONG, BOTH WAYS GIVE THE SAME PAGE. No Go.
-/
namespace Go.Proofs.YtffkejkgkgfnhabGreat
open Go.RowKit
set_option linter.unusedVariables false
def btsW (l : List Int) : List UInt8 := l.map fun n => UInt8.ofNat n.toNat
theorem btsW_append (a b : List Int) : btsW (a ++ b) = btsW a ++ btsW b := by simp [btsW]
theorem numsW (l : List Int) : (strOfNums l).data.toList = btsW l := strOfNums_data l
def stayB (c : Int) : Bool := decide (∀ n : Fin 256, scl c (btsW (pc c (n.val : Int))) = c)
theorem stay0 : stayB 0 = true := by decide +kernel
theorem stay15 : stayB 15 = true := by decide +kernel
theorem stay16 : stayB 16 = true := by decide +kernel
theorem stay17 : stayB 17 = true := by decide +kernel
theorem stay18 : stayB 18 = true := by decide +kernel
theorem stay21 : stayB 21 = true := by decide +kernel
theorem stay_at (c : Int) (h : stayB c = true) (u : UInt8) : scl c (btsW (pc c u.toNat)) = c := by
  unfold stayB at h
  exact (of_decide_eq_true h) ⟨u.toNat, UInt8.toNat_lt u⟩
theorem stay_mid (c : Int) (h : stayB c = true) (l : List UInt8) : scl c (btsW (mid c l)) = c := by
  induction l with
  | nil => rfl
  | cons u r ih =>
    have e : mid c (u :: r) = pc c u.toNat ++ mid c r := by simp [mid]
    rw [e, btsW_append, scl_append, stay_at c h, ih]
theorem midW_19 (l : List UInt8) : mid 19 l = mid 21 l := by
  have : ∀ b, pc 19 b = pc 21 b := by intro b; simp [pc]
  simp [mid, this]
theorem stay_esc (c : Int) (h : opB c = true) (l : List UInt8) : scl c (btsW (escL c l)) = c := by
  by_cases h19 : c = 19
  · subst h19
    have e1 : scl 19 (btsW [39]) = 21 := by decide
    have e2 : scl 21 (btsW [39]) = 19 := by decide
    have e3 := stay_mid 21 stay21 l
    have e4 : escL 19 l = [39] ++ (mid 21 l ++ [39]) := by simp [escL, acc, pre, midW_19]
    rw [e4, btsW_append, scl_append, e1, btsW_append, scl_append, e3, e2]
  · have e : escL c l = mid c l := by simp [escL, acc, pre, h19]
    rw [e]
    simp only [opB, decide_eq_true_eq] at h
    have : stayB c = true := by
      rcases h with rfl | rfl | rfl | rfl | rfl | rfl | rfl
      · exact stay0
      · exact stay15
      · exact stay16
      · exact stay17
      · exact stay18
      · exact absurd rfl h19
      · exact stay21
    exact stay_mid c this l
theorem app_list (a b : ByteArray) : (a ++ b).data.toList = a.data.toList ++ b.data.toList := by simp
theorem ctxO_scl (o : ByteArray) : ctxO o = scl 0 o.data.toList := by simp [ctxO, scn]
theorem ctxO_app (o p : ByteArray) : ctxO (o ++ p) = scl (ctxO o) p.data.toList := by rw [ctxO_scl, ctxO_scl, app_list, scl_append]
theorem ctxO_byt (o : ByteArray) (b : UInt8) : ctxO (o ++ byt b) = stp (ctxO o) b.toNat := by rw [ctxO_app]; rfl
theorem ctxO_esc (o t : ByteArray) (h : opB (ctxO o) = true) : ctxO (o ++ escB (ctxO o) t) = ctxO o := by
  rw [ctxO_app]
  show scl (ctxO o) (strOfNums (escL (ctxO o) t.data.toList)).data.toList = _
  rw [numsW]; exact stay_esc _ h _
def CtxIn (S : Cs) (st : Pst) : Prop := ∃ y : Nat, ctxO st.out = (y : Int) ∧ S y
def PostW (s1 s2 : Pst) (S : Cs) : Prop := s1 = s2 ∧ s1.err ≠ 9 ∧ s1.err ≠ 10 ∧ (s1.err = 0 → CtxIn S s1)
theorem text_way (l : List UInt8) : ∀ (st : Pst), scl (ctxO st.out) l ≠ -1 → st.err = 0 → txtF true l st = txtF false l st ∧ (txtF true l st).err ≠ 9 ∧ (txtF true l st).err ≠ 10 ∧ ((txtF true l st).err = 0 → ctxO (txtF true l st).out = scl (ctxO st.out) l) := by
  induction l with
  | nil => intro st h he; exact ⟨rfl, by simp [txtF, he], by simp [txtF, he], fun _ => rfl⟩
  | cons b r ih =>
    intro st h he
    simp only [txtF]
    by_cases hf : 2000 ≤ st.out.size
    · simp [hf]
    · have h1 : ctxO (st.out ++ byt b) ≠ -1 := by
        intro e
        refine h ?_
        show scl (stp (ctxO st.out) b.toNat) r = -1
        rw [← ctxO_byt, e]; exact scl_lost r
      have h2 : scl (ctxO (st.out ++ byt b)) r ≠ -1 := by
        rw [ctxO_byt]; exact h
      obtain ⟨k1, k2, k3, k4⟩ := ih { st with out := st.out ++ byt b } h2 he
      rw [if_neg hf, if_neg (by simp [h1]), if_neg hf, if_neg (by simp)]
      refine ⟨k1, k2, k3, fun e => ?_⟩
      rw [k4 e]
      show scl (ctxO (st.out ++ byt b)) r = _
      rw [ctxO_byt]; rfl
/-- choices without a second way have none -/
def NdE : Nds → Prop
  | .nil => True
  | .cons k _ _ th el tw r => (k = 1 ∨ k = 2 ∨ k = 3 ∨ k = 4 ∨ k = 5) ∧ (tw = false → el = .nil) ∧ NdE th ∧ NdE el ∧ NdE r
theorem opS_op (x : Nat) (h : opS x = true) : opB (x : Int) = true := by
  simp only [opS, decide_eq_true_eq] at h
  simp only [opB, decide_eq_true_eq]; omega
theorem hole_way (t : ByteArray) (st : Pst) (S : Cs) (x : Nat) (hx : ctxO st.out = (x : Int)) (hS : S x) (ho : opS x = true) (he : st.err = 0) : (holF t st).err ≠ 9 ∧ (holF t st).err ≠ 10 ∧ ((holF t st).err = 0 → CtxIn S (holF t st)) := by
  have h1 : opB (ctxO st.out) = true := by rw [hx]; exact opS_op x ho
  unfold holF
  rw [if_pos h1]
  split
  · simp
  · refine ⟨by simp [he], by simp [he], fun _ => ⟨x, ?_, hS⟩⟩
    show ctxO (st.out ++ escB (ctxO st.out) t) = _
    rw [ctxO_esc _ _ h1, hx]
structure Wld (ts : List Tm) (t0 : Nat) (B : Nat → Nat → Prop) (E : En) : Prop where
  cl : Closed ts t0 B E
  good : ∀ t x, B t x → ¬ evt ts E (bod ts t) (one x) .bad
  nd : ∀ t, NdE (bod ts t)
def WayOK (ts : List Tm) (B : Nat → Nat → Prop) (E : En) (n : Nat) : Prop := ∀ (b : Nds) (S : Cs) (R : List Dat) (st : Pst), 500 ≤ st.steps + n → NdE b → ¬ evt ts E b S .bad → (∀ t x, evt ts E b S (.call t x) → B t x) → st.err = 0 → CtxIn S st →
  PostW (pagF ts true n b R st) (pagF ts false n b R st) (sem ts E b S)
theorem loop_way {ts : List Tm} {B : Nat → Nat → Prop} {E : En} {m : Nat} (hm : WayOK ts B E m) (th : Nds) (S : Cs) (R : List Dat) (hnd : NdE th) (hg : ¬ evt ts E th (lfp (sem ts E th) S) .bad) (hc : ∀ t x, evt ts E th (lfp (sem ts E th) S) (.call t x) → B t x) :
    ∀ (d : Dat) (st : Pst), 500 ≤ st.steps + m → st.err ≠ 9 → st.err ≠ 10 → (st.err = 0 → CtxIn (lfp (sem ts E th) S) st) → PostW (lopF (pagF ts true m) th R d st) (lopF (pagF ts false m) th R d st) (lfp (sem ts E th) S)
  | .nil, st, _, h9, h10, h0 => ⟨rfl, h9, h10, h0⟩
  | .fld _ _ _ _ _, st, _, h9, h10, h0 => ⟨rfl, h9, h10, h0⟩
  | .row f r, st, hs, h9, h10, h0 => by
    simp only [lopF]
    by_cases he : st.err = 0
    · have c1 : ¬ (st.err ≠ 0) := by simpa using he
      rw [if_neg c1, if_neg c1]
      by_cases h5 : 500 ≤ st.steps
      · rw [if_pos h5, if_pos h5]
        exact ⟨rfl, by simp, by simp, fun e => by simp at e⟩
      · rw [if_neg h5, if_neg h5]
        obtain ⟨k1, k2, k3, k4⟩ := hm th (lfp (sem ts E th) S) (R ++ [f]) { st with steps := st.steps + 1 } (by simp only; omega) hnd hg hc he (h0 he)
        have hst := pagF_steps ts true m th (R ++ [f]) { st with steps := st.steps + 1 }
        simp only at hst
        rw [← k1]
        refine loop_way hm th S R hnd hg hc r _ (by omega) k2 k3 (fun e => ?_)
        obtain ⟨y, q1, q2⟩ := k4 e
        exact ⟨y, q1, lfp_step _ _ (fun X Y h z hz => sem_mono (fun _ _ _ q => q) th X Y h z hz) y q2⟩
    · have c1 : st.err ≠ 0 := he
      rw [if_pos c1, if_pos c1]
      exact ⟨rfl, h9, h10, h0⟩
theorem ins_way {ts : List Tm} {t0 : Nat} {B : Nat → Nat → Prop} {E : En} {m : Nat} (W : Wld ts t0 B E) (hm : WayOK ts B E m) (k a : Int) (nm : ByteArray) (th el : Nds) (tw : Bool) (S : Cs) (R : List Dat) (st : Pst) (hk : k = 2 ∨ k = 3 ∨ k = 4 ∨ k = 5) (hs : 500 ≤ st.steps + m) (htw : tw = false → el = .nil) (hnt : NdE th) (hne : NdE el)
    (hg : ¬ pevt ts E k a nm (sem ts E th) (evt ts E th) (evt ts E el) tw S .bad) (hc : ∀ t x, pevt ts E k a nm (sem ts E th) (evt ts E th) (evt ts E el) tw S (.call t x) → B t x) (he : st.err = 0) (hx : CtxIn S st) :
    PostW (insF (pagF ts true m) ts R k nm th el st) (insF (pagF ts false m) ts R k nm th el st) (psem ts E k nm (sem ts E th) (sem ts E el) tw S) := by
  obtain ⟨x, hx1, hx2⟩ := hx
  rcases hk with rfl | rfl | rfl | rfl
  · simp only [insF, show ¬ ((2 : Int) = 5) by decide, if_false]
    cases hl : lkp nm R with
    | none => exact ⟨rfl, by simp, by simp, fun e => by simp at e⟩
    | some v =>
      simp only [fldF, if_true]
      have ho : opS x = true := by
        by_cases q : opS x = true
        · exact q
        · refine absurd ?_ hg
          simp only [pevt, show ¬ ((2 : Int) = 1) by decide, if_false, if_true]
          exact ⟨x, hx2, by rw [if_neg q]; trivial⟩
      by_cases hv : v.2.1 = true
      · rw [if_pos hv]; exact ⟨rfl, by simp, by simp, fun e => by simp at e⟩
      · rw [if_neg hv]
        obtain ⟨q1, q2, q3⟩ := hole_way v.2.2.1 st S x hx1 hx2 ho he
        refine ⟨rfl, q1, q2, fun e => ?_⟩
        simp only [psem, show ¬ ((2 : Int) = 1) by decide, if_false, if_true]
        exact q3 e
  · simp only [insF, show ¬ ((3 : Int) = 5) by decide, if_false]
    cases hl : lkp nm R with
    | none => exact ⟨rfl, by simp, by simp, fun e => by simp at e⟩
    | some v =>
      simp only [fldF, show ¬ ((3 : Int) = 2) by decide, if_false, if_true]
      simp only [pevt, show ¬ ((3 : Int) = 1) by decide, show ¬ ((3 : Int) = 2) by decide, if_false, if_true] at hg hc
      simp only [psem, show ¬ ((3 : Int) = 1) by decide, show ¬ ((3 : Int) = 2) by decide, if_false, if_true]
      split
      · obtain ⟨q1, q2, q3, q4⟩ := hm th S R st hs hnt (fun q => hg (.inl q)) (fun t y q => hc t y (.inl q)) he ⟨x, hx1, hx2⟩
        refine ⟨q1, q2, q3, fun e => ?_⟩
        obtain ⟨y, r1, r2⟩ := q4 e
        exact ⟨y, r1, .inl r2⟩
      · cases htw' : tw with
        | true =>
          rw [htw'] at hg hc
          obtain ⟨q1, q2, q3, q4⟩ := hm el S R st hs hne (fun q => hg (.inr ⟨rfl, q⟩)) (fun t y q => hc t y (.inr ⟨rfl, q⟩)) he ⟨x, hx1, hx2⟩
          refine ⟨q1, q2, q3, fun e => ?_⟩
          obtain ⟨y, r1, r2⟩ := q4 e
          exact ⟨y, r1, .inr (by rw [if_pos rfl]; exact r2)⟩
        | false =>
          rw [htw htw']
          have e1 : ∀ tr, pagF ts tr m .nil R st = st := by intro tr; rw [pagF_eq]; rfl
          rw [e1, e1]
          exact ⟨rfl, by simp [he], by simp [he], fun _ => ⟨x, hx1, .inr (by simpa using hx2)⟩⟩
  · simp only [insF, show ¬ ((4 : Int) = 5) by decide, if_false]
    cases hl : lkp nm R with
    | none => exact ⟨rfl, by simp, by simp, fun e => by simp at e⟩
    | some v =>
      simp only [fldF, show ¬ ((4 : Int) = 2) by decide, show ¬ ((4 : Int) = 3) by decide, if_false, if_true]
      simp only [pevt, show ¬ ((4 : Int) = 1) by decide, show ¬ ((4 : Int) = 2) by decide, show ¬ ((4 : Int) = 3) by decide, if_false, if_true] at hg hc
      simp only [psem, show ¬ ((4 : Int) = 1) by decide, show ¬ ((4 : Int) = 2) by decide, show ¬ ((4 : Int) = 3) by decide, if_false, if_true]
      split
      · exact loop_way hm th S R hnt hg hc v.2.2.2 st hs (by simp [he]) (by simp [he]) (fun _ => ⟨x, hx1, lfp_in _ _ _ hx2⟩)
      · exact ⟨rfl, by simp, by simp, fun e => by simp at e⟩
  · simp only [insF, if_true]
    simp only [pevt, show ¬ ((5 : Int) = 1) by decide, show ¬ ((5 : Int) = 2) by decide, show ¬ ((5 : Int) = 3) by decide, show ¬ ((5 : Int) = 4) by decide, if_false] at hg hc
    simp only [psem, show ¬ ((5 : Int) = 1) by decide, show ¬ ((5 : Int) = 2) by decide, show ¬ ((5 : Int) = 3) by decide, show ¬ ((5 : Int) = 4) by decide, if_false]
    have hB : B (tno ts nm) x := hc _ _ ⟨x, hx2, rfl⟩
    obtain ⟨q1, q2, q3, q4⟩ := hm (bod ts (tno ts nm)) (one x) R st hs (W.nd _) (W.good _ _ hB) (fun t y q => W.cl.calls _ _ t y hB q) he ⟨x, hx1, rfl⟩
    refine ⟨q1, q2, q3, fun e => ?_⟩
    obtain ⟨y, r1, r2⟩ := q4 e
    exact ⟨y, r1, x, hx2, W.cl.ends _ _ _ hB r2⟩
theorem body_way {ts : List Tm} {t0 : Nat} {B : Nat → Nat → Prop} {E : En} {n : Nat} (W : Wld ts t0 B E) (hm : ∀ m, n = m + 1 → WayOK ts B E m) : ∀ (b : Nds) (S : Cs) (R : List Dat) (st : Pst), 500 ≤ st.steps + n → NdE b → ¬ evt ts E b S .bad → (∀ t x, evt ts E b S (.call t x) → B t x) → st.err ≠ 9 → st.err ≠ 10 → (st.err = 0 → CtxIn S st) →
    PostW (bdyF (subF ts true n) ts true R b st) (bdyF (subF ts false n) ts false R b st) (sem ts E b S)
  | .nil, S, R, st, hs, _, _, _, h9, h10, h0 => ⟨rfl, h9, h10, h0⟩
  | .cons k a nm th el tw r, S, R, st, hs, hnd, hg, hc, h9, h10, h0 => by
    simp only [bdyF]
    by_cases he : st.err = 0
    · have c1 : ¬ (st.err ≠ 0) := by simpa using he
      rw [if_neg c1, if_neg c1]
      obtain ⟨hk, htw, hnt, hne, hnr⟩ := hnd
      have hg2 : ¬ pevt ts E k a nm (sem ts E th) (evt ts E th) (evt ts E el) tw S .bad := fun q => hg (.inr (.inl q))
      have hc2 : ∀ t x, pevt ts E k a nm (sem ts E th) (evt ts E th) (evt ts E el) tw S (.call t x) → B t x := fun t x q => hc t x (.inr (.inl q))
      have key : PostW (if k = 1 then txtF true nm.data.toList st else pceF (subF ts true n) ts R k nm th el st) (if k = 1 then txtF false nm.data.toList st else pceF (subF ts false n) ts R k nm th el st) (psem ts E k nm (sem ts E th) (sem ts E el) tw S) ∧ st.steps ≤ (if k = 1 then txtF true nm.data.toList st else pceF (subF ts true n) ts R k nm th el st).steps := by
        obtain ⟨x, hx1, hx2⟩ := h0 he
        by_cases hk1 : k = 1
        · subst hk1
          simp only [if_true]
          have hsc : scn (x : Int) nm.data.toList = scl (x : Int) nm.data.toList := by
            have hr := scl_range 0 st.out.data.toList (by omega)
            rw [← ctxO_scl, hx1] at hr
            simp [scn]; omega
          have hne1 : scl (ctxO st.out) nm.data.toList ≠ -1 := by
            intro e
            refine hg2 ?_
            simp only [pevt, if_true]
            exact ⟨trivial, x, hx2, by rw [hsc, ← hx1]; exact e⟩
          obtain ⟨q1, q2, q3, q4⟩ := text_way nm.data.toList st hne1 he
          refine ⟨⟨q1, q2, q3, fun e => ?_⟩, by rw [txtF_steps]; exact Nat.le_refl _⟩
          have hr := scl_range (ctxO st.out) nm.data.toList (by rw [ctxO_scl]; exact scl_range 0 _ (by omega))
          refine ⟨(scl (ctxO st.out) nm.data.toList).toNat, by rw [q4 e]; omega, ?_⟩
          simp only [psem, if_true]
          exact ⟨x, hx2, by rw [hsc, ← hx1]; omega⟩
        · rw [if_neg hk1, if_neg hk1]
          have hrs := pceF_steps (subF ts true n) ts R (subF_steps ts true n) k nm th el st
          refine ⟨?_, hrs⟩
          unfold pceF
          by_cases h5 : 500 ≤ st.steps
          · rw [if_pos h5, if_pos h5]
            exact ⟨rfl, by simp, by simp, fun e => by simp at e⟩
          · rw [if_neg h5, if_neg h5]
            obtain ⟨m, rfl⟩ : ∃ m, n = m + 1 := ⟨n - 1, by omega⟩
            exact ins_way W (hm m rfl) k a nm th el tw S R { st with steps := st.steps + 1 } (by omega) (by simp only; omega) htw hnt hne hg2 hc2 he ⟨x, hx1, hx2⟩
      obtain ⟨⟨k1, k2, k3, k4⟩, k5⟩ := key
      rw [← k1]
      exact body_way W hm r _ R _ (by omega) hnr (fun q => hg (.inr (.inr q))) (fun t x q => hc t x (.inr (.inr q))) k2 k3 k4
    · have c1 : st.err ≠ 0 := he
      rw [if_pos c1, if_pos c1]
      exact ⟨rfl, h9, h10, fun e => absurd e he⟩
theorem way_all {ts : List Tm} {t0 : Nat} {B : Nat → Nat → Prop} {E : En} (W : Wld ts t0 B E) (n : Nat) : WayOK ts B E n := by
  induction n with
  | zero =>
    intro b S R st hs hnd hg hc he hx
    rw [pagF_eq, pagF_eq]
    exact body_way W (fun m h => by omega) b S R st hs hnd hg hc (by simp [he]) (by simp [he]) (fun _ => hx)
  | succ n ih =>
    intro b S R st hs hnd hg hc he hx
    rw [pagF_eq, pagF_eq]
    exact body_way W (fun m h => by have e : m = n := by omega
                                    subst e; exact ih) b S R st hs hnd hg hc (by simp [he]) (by simp [he]) (fun _ => hx)
end Go.Proofs.YtffkejkgkgfnhabGreat
