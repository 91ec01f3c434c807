import Derived.Test.YtffkejkgkgfnhabG21
import Derived.Test.YtffkejkgkgfnhabG27
import Derived.KernelRfl
import Derived.Test.YtffkejkgkgfnhabG07
import Derived.Test.YtffkejkgkgfnhabG03
import Derived.Test.YtffkejkgkgfnhabG04
import Derived.Deep.RegionHeld3
namespace Go.Proofs.Ytffkejkgkgfnhab
open Go.RowKit
set_option linter.unusedVariables false
theorem empty_app (l : List UInt8) : (⟨#[]⟩ : ByteArray) ++ mkB l = mkB l := by
  apply ByteArray.ext
  apply Array.ext'
  simp [mkB]
/-- what Render answers where nothing goes wrong but the bounds -/
theorem page_law {s nm : ByteArray} {ts : List Tm} {way : Int} {d : Dat} {o : ByteArray} {x : Int} {v : Pg1} {m : Nat} (hr : Reads s ts) (hf : 0 ≤ fndF nm ts 0) (hw : way = 0 ∨ (way = 1 ∧ ¬ TBad ts (tno ts nm))) (hp : ppg ts m (bod ts (tno ts nm)) [d] 0 = some v) (hx : v.x = 0) (h : RenS s nm way d o x) :
    (v.k ≤ 500 → v.w.length ≤ 2000 → x = 0 ∧ o = mkB v.w) ∧ (v.k ≤ 500 → 2000 < v.w.length → x = 13 ∧ o = ⟨#[]⟩) ∧ (500 < v.k → v.w.length ≤ 2000 → x = 12 ∧ o = ⟨#[]⟩) := by
  obtain ⟨A, a1, a2, a3, a4, a5⟩ := hr
  have key : ∀ o' x', endS (decide (way = 0)) (pagR ts nm (decide (way = 0)) d) o' x' → o = o' ∧ x = x' := fun o' x' he => renS_unique h (.inr ⟨ts, A, a1, a2, a3, a4, a5, .inr (.inr (.inr ⟨hf, hw, he⟩))⟩)
  have pp := pln_all ts (decide (way = 0)) m 500 (bod ts (tno ts nm)) [d] pst0 v (by simp) (by simp [Fit, pst0, ByteArray.size]) rfl hp
  change PP pst0 (pagR ts nm (decide (way = 0)) d) v at pp
  have e1 : pst0.steps = 0 := rfl
  have e2 : pst0.out.size = 0 := rfl
  refine ⟨fun h1 h2 => ?_, fun h1 h2 => ?_, fun h1 h2 => ?_⟩
  · obtain ⟨f1, f2⟩ := pp.fits (by omega) (by omega)
    have := key (mkB v.w) 0 (by
      rw [f1]
      refine .inr (.inr ⟨rfl, fun _ => ?_, rfl, ?_⟩)
      · show ctxO (pst0.out ++ mkB v.w) = 0
        rw [f2, hx]
      · show mkB v.w = ⟨#[]⟩ ++ mkB v.w
        rw [empty_app])
    exact ⟨this.2, this.1⟩
  · have f1 := pp.out (by omega) (by omega)
    have := key ⟨#[]⟩ 13 (.inl ⟨by rw [f1]; decide, f1.symm, rfl⟩)
    exact ⟨this.2, this.1⟩
  · have f1 := pp.steps (by omega) (by omega)
    have := key ⟨#[]⟩ 12 (.inl ⟨by rw [f1]; decide, f1.symm, rfl⟩)
    exact ⟨this.2, this.1⟩
/-- what Walks answers -/
theorem walk_law {s nm : ByteArray} {ts : List Tm} {x y : Int} {L M : List (Nat × Nat)} (hr : Reads s ts) (hw : WSpec ts nm y M) (h : PWalk s nm x L) : x = y ∧ L = M := by
  obtain ⟨A, a1, a2, a3, a4, a5⟩ := hr
  exact walks_agree h (.inr ⟨ts, A, a1, a2, a3, a4, a5, hw⟩)
theorem wspec_good {ts : List Tm} {nm : ByteArray} {L : List (Nat × Nat)} (h : WSpec ts nm 0 L) : ¬ TBad ts (tno ts nm) := by
  rcases h with ⟨_, h, _⟩ | ⟨_, ⟨_, h, _⟩ | ⟨h, _⟩⟩
  · omega
  · omega
  · exact h
/-- Ends -/
theorem ends_law {s nm : ByteArray} {d : Dat} {o : ByteArray} {x : Int} (h : RenS s nm 0 d o x) : (x ≠ 0 → o = ⟨#[]⟩) ∧ (x = 0 → ctxO o = 0 ∧ o.size ≤ 2000) := by
  rcases h with ⟨z, k1, k2, k3⟩ | ⟨ts, A, k0, k1, k2, k3, k4, k5⟩
  · exact ⟨fun _ => k3, fun e => absurd e k2⟩
  · rcases k5 with ⟨_, _, rfl, rfl⟩ | ⟨_, _, rfl, rfl⟩ | ⟨_, _, _, rfl, rfl⟩ | ⟨_, _, he⟩
    · exact ⟨fun _ => rfl, fun e => by omega⟩
    · exact ⟨fun _ => rfl, fun e => by omega⟩
    · exact ⟨fun _ => rfl, fun e => by omega⟩
    · have hfit := pagF_fit ts true 500 (bod ts (tno ts nm)) [d] pst0 (by simp [Fit, pst0, ByteArray.size])
      change Fit (pagR ts nm true d) at hfit
      change endS true (pagR ts nm true d) o x at he
      rcases he with ⟨b1, rfl, rfl⟩ | ⟨_, _, _, rfl, rfl⟩ | ⟨_, b2, rfl, rfl⟩
      · exact ⟨fun _ => rfl, fun e => absurd e b1⟩
      · exact ⟨fun _ => rfl, fun e => by omega⟩
      · exact ⟨fun e => absurd rfl e, fun _ => ⟨b2 rfl, hfit.1⟩⟩
end Go.Proofs.Ytffkejkgkgfnhab
namespace Go.Proofs.Ytffkejkgkgfnhab
open Go.RowKit
set_option linter.unusedVariables false
theorem nmL_one (u : UInt8) (h : 97 ≤ u.toNat ∧ u.toNat ≤ 122) : nmL [u] := ⟨by simp, fun v hv => by simp at hv; subst hv; exact h⟩
theorem lkp_one (nm : ByteArray) (d : Dat) : lkp nm [d] = d.fnd nm := by
  simp [lkp]
theorem nm_self (b : ByteArray) : nmEq b b = true := by simp [nmEq]
def kSr : Sr := .text [60, 97, 32, 117, 61, 34] (.hole [120] (.text [34, 62] .nil))
def kTs : List Tm := [tmTm [97] kSr 0]
theorem k_fnd : fndF (mkB [97]) kTs 0 = 0 := by simp [kTs, fndF, tmTm, nmEq_mkB]
theorem k_tno : tno kTs (mkB [97]) = 0 := by simp [tno, k_fnd]
theorem k_reads : Reads (mkB (tmOut [97] kSr)) kTs := by
  refine reads_one (nmL_one 97 (by decide)) ⟨⟨by decide, by decide⟩, rfl, nmL_one 120 (by decide), ⟨by decide, by decide⟩, rfl, trivial⟩ (by decide) (by decide)
theorem k_walk : WSpec kTs (mkB [97]) 0 [(10, 17)] := by
  refine wspec_one kTs (mkB [97]) ⟨0, [(10, 17)], []⟩ (by rw [k_fnd]; decide) ?_ rfl (by simp [Srt]) (by simp)
  rw [k_tno]
  rfl
def kDat : Dat := .fld (mkB [120]) false (mkB [38]) .nil .nil
theorem k_page : ppg kTs 1 (bod kTs 0) [kDat] 0 = some ⟨[60, 97, 32, 117, 61, 34, 37, 50, 54, 34, 62], 1, 0⟩ := by
  have hl : lkp (mkB [120]) [kDat] = some (mkB [120], false, mkB [38], .nil) := by rw [lkp_one]; simp [kDat, Dat.fnd, nm_self]
  show bdyP (ppg kTs 0) kTs [kDat] (kSr.nds 4) 0 = _
  simp only [kSr, Sr.nds, bdyP, insP, hl]
  rfl
def lSr : Sr := .loop [114] (.hole [120] .nil) .nil
def lTs : List Tm := [tmTm [97] lSr 0]
theorem l_fnd : fndF (mkB [97]) lTs 0 = 0 := by simp [lTs, fndF, tmTm, nmEq_mkB]
theorem l_tno : tno lTs (mkB [97]) = 0 := by simp [tno, l_fnd]
theorem l_reads : Reads (mkB (tmOut [97] lSr)) lTs :=
  reads_one (nmL_one 97 (by decide)) ⟨nmL_one 114 (by decide), by decide, ⟨nmL_one 120 (by decide), trivial⟩, trivial⟩ (by decide) (by decide)
theorem l_walk : WSpec lTs (mkB [97]) 0 [(8, 0)] := by
  refine wspec_one lTs (mkB [97]) ⟨0, [(8, 0)], []⟩ (by rw [l_fnd]; decide) ?_ rfl (by simp [Srt]) (by simp)
  rw [l_tno]
  rfl
/-- n rows, each with x: 1 -/
def lRows : Nat → Dat
  | 0 => .nil
  | n + 1 => .row (.fld (mkB [120]) false (mkB [49]) .nil .nil) (lRows n)
def lDat (n : Nat) : Dat := .fld (mkB [114]) true ⟨#[]⟩ (lRows n) .nil
theorem l_row (n : Nat) : bdyP (ppg lTs 0) lTs ([lDat n] ++ [.fld (mkB [120]) false (mkB [49]) .nil .nil]) ((Sr.hole [120] .nil).nds 8) 0 = some ⟨[49], 1, 0⟩ := by
  have hl : lkp (mkB [120]) ([lDat n] ++ [.fld (mkB [120]) false (mkB [49]) .nil .nil]) = some (mkB [120], false, mkB [49], .nil) := by simp [lkp, Dat.fnd, nm_self]
  simp only [Sr.nds, bdyP, insP, hl]
  rfl
theorem l_lop (n k : Nat) : lopP (ppg lTs 1) ((Sr.hole [120] .nil).nds 8) [lDat n] (lRows k) 0 = some ⟨List.replicate k 49, 2 * k, 0⟩ := by
  induction k with
  | zero => rfl
  | succ k ih =>
    simp only [lRows, lopP]
    have e : ppg lTs 1 ((Sr.hole [120] .nil).nds 8) ([lDat n] ++ [.fld (mkB [120]) false (mkB [49]) .nil .nil]) 0 = some ⟨[49], 1, 0⟩ := l_row n
    rw [e]
    simp only [addK, seqP]
    rw [ih]
    simp only [List.replicate_succ, List.cons_append, List.nil_append, Option.some.injEq, Pg1.mk.injEq, and_true, true_and]
    omega
theorem l_page (n : Nat) : ppg lTs 2 (bod lTs 0) [lDat n] 0 = some ⟨List.replicate n 49, 2 * n + 1, 0⟩ := by
  have hl : lkp (mkB [114]) [lDat n] = some (mkB [114], true, ⟨#[]⟩, lRows n) := by rw [lkp_one]; simp [lDat, Dat.fnd, nm_self]
  show bdyP (ppg lTs 1) lTs [lDat n] (lSr.nds 4) 0 = _
  have e : lSr.nds 4 = .cons 4 4 (mkB [114]) ((Sr.hole [120] .nil).nds 8) .nil false .nil := rfl
  rw [e]
  have h5 : insP (ppg lTs 1) lTs [lDat n] 4 (mkB [114]) ((Sr.hole [120] .nil).nds 8) .nil 0 = some ⟨List.replicate n 49, 2 * n, 0⟩ := by
    unfold insP
    rw [if_neg (by decide), hl]
    simp only [fldP]
    rw [if_neg (by decide), if_neg (by decide), if_pos trivial, if_pos trivial]
    exact l_lop n n
  simp only [bdyP]
  rw [if_neg (by decide), h5]
  simp [addK, seqP]
def sSr : Sr := .hole [120] (.loop [114] (.hole [120] (.hole [121] .nil)) (.hole [120] .nil))
def sTs : List Tm := [tmTm [97] sSr 0]
theorem s_fnd : fndF (mkB [97]) sTs 0 = 0 := by simp [sTs, fndF, tmTm, nmEq_mkB]
theorem s_tno : tno sTs (mkB [97]) = 0 := by simp [tno, s_fnd]
theorem s_reads : Reads (mkB (tmOut [97] sSr)) sTs :=
  reads_one (nmL_one 97 (by decide)) ⟨nmL_one 120 (by decide), nmL_one 114 (by decide), by decide, ⟨nmL_one 120 (by decide), nmL_one 121 (by decide), trivial⟩, nmL_one 120 (by decide), trivial⟩ (by decide) (by decide)
theorem s_walk : ∃ L, WSpec sTs (mkB [97]) 0 L := by
  refine ⟨_, wspec_one sTs (mkB [97]) ⟨0, [(4, 0), (11, 0), (14, 0), (20, 0)], []⟩ (by rw [s_fnd]; decide) ?_ rfl (by simp [Srt]) (by simp)⟩
  rw [s_tno]
  rfl
def fldD (nm : List UInt8) (t : ByteArray) (r : Dat) : Dat := .fld (mkB nm) false t .nil r
def sRow (z : ByteArray) : Dat := fldD [120] z .nil
def sDat (x y z : ByteArray) : Dat := fldD [120] x (fldD [121] y (.fld (mkB [114]) true ⟨#[]⟩ (.row (sRow z) (.row .nil .nil)) .nil))
def esT (t : ByteArray) : List UInt8 := btsW (escL 0 t.data.toList)
theorem s_page (x y z : ByteArray) : ppg sTs 2 (bod sTs 0) [sDat x y z] 0 = some ⟨esT x ++ (esT z ++ (esT y ++ (esT x ++ (esT y ++ esT x)))), 9, 0⟩ := by
  have nxy : nmEq (mkB [120]) (mkB [121]) = false := by rw [nmEq_mkB]; decide
  have nyx : nmEq (mkB [121]) (mkB [120]) = false := by rw [nmEq_mkB]; decide
  have nxr : nmEq (mkB [120]) (mkB [114]) = false := by rw [nmEq_mkB]; decide
  have nyr : nmEq (mkB [121]) (mkB [114]) = false := by rw [nmEq_mkB]; decide
  have nrx : nmEq (mkB [114]) (mkB [120]) = false := by rw [nmEq_mkB]; decide
  have l1 : lkp (mkB [120]) [sDat x y z] = some (mkB [120], false, x, .nil) := by rw [lkp_one]; simp [sDat, fldD, Dat.fnd, nm_self]
  have l2 : lkp (mkB [114]) [sDat x y z] = some (mkB [114], true, ⟨#[]⟩, .row (sRow z) (.row .nil .nil)) := by rw [lkp_one]; simp [sDat, fldD, Dat.fnd, nm_self, nxr, nyr]
  have l3 : lkp (mkB [120]) [sDat x y z, sRow z] = some (mkB [120], false, z, .nil) := by simp [lkp, sDat, sRow, fldD, Dat.fnd, nm_self]
  have l4 : lkp (mkB [121]) [sDat x y z, sRow z] = some (mkB [121], false, y, .nil) := by simp [lkp, sDat, sRow, fldD, Dat.fnd, nm_self, nxy]
  have l5 : lkp (mkB [120]) [sDat x y z, .nil] = some (mkB [120], false, x, .nil) := by simp [lkp, List.findSome?_cons, sDat, sRow, fldD, Dat.fnd, nm_self]
  have l6 : lkp (mkB [121]) [sDat x y z, .nil] = some (mkB [121], false, y, .nil) := by simp [lkp, List.findSome?_cons, sDat, sRow, fldD, Dat.fnd, nm_self, nxy]
  have r1 : ppg sTs 1 ((Sr.hole [120] (.hole [121] .nil)).nds 11) [sDat x y z, sRow z] 0 = some ⟨esT z ++ esT y, 2, 0⟩ := by
    show bdyP (ppg sTs 0) sTs _ _ 0 = _
    simp only [Sr.nds, bdyP, insP, l3, l4]
    simp [fldP, seqP, addK, esT, show opB 0 = true by decide]
  have r2 : ppg sTs 1 ((Sr.hole [120] (.hole [121] .nil)).nds 11) [sDat x y z, .nil] 0 = some ⟨esT x ++ esT y, 2, 0⟩ := by
    show bdyP (ppg sTs 0) sTs _ _ 0 = _
    simp only [Sr.nds, bdyP, insP, l5, l6]
    simp [fldP, seqP, addK, esT, show opB 0 = true by decide]
  show bdyP (ppg sTs 1) sTs [sDat x y z] (sSr.nds 4) 0 = _
  have e : sSr.nds 4 = .cons 2 4 (mkB [120]) .nil .nil false (.cons 4 7 (mkB [114]) ((Sr.hole [120] (.hole [121] .nil)).nds 11) .nil false (.cons 2 20 (mkB [120]) .nil .nil false .nil)) := rfl
  rw [e]
  simp only [bdyP, insP, l1, l2]
  simp [fldP, seqP, addK, lopP, r1, r2, esT, show opB 0 = true by decide]
end Go.Proofs.Ytffkejkgkgfnhab
namespace Go.Proofs.Ytffkejkgkgfnhab
open Go.RowKit
set_option linter.unusedVariables false
set_option maxRecDepth 100000 in
set_option maxHeartbeats 2000000 in
theorem q21 (hR : PROK 13) (w : World) (src want : ByteArray) (da : Option Addr) (d : Dat) (dc : Nat) (hs : src.size ≤ maxLen) (hV : DatV w w.heap.size da d) (hok : d.ok false) (hbk : d.bulk ≤ 1048576) (hlc : d.len ≤ dc) (hdc : dc ≤ maxLen) (hw : want.size ≤ maxLen)
    (h : ∀ way o x, (way = 0 ∨ way = 1) → RenS src (mkB [97]) way d o x → (want.size ≤ 2000 → x = 0 ∧ o = want) ∧ (2000 < want.size → x = 13 ∧ o = ⟨#[]⟩)) :
    Calls Try.prog 11 #[.string src, .agg #[.slice da d.len dc], .string want] w fun e w' => e = .returned (.bool true) ∧ Below w.heap.size w w' := by
  have H := hidS h
  have hc0 := fun o => hR src (mkB [97]) 0 (w.alloc o) da d dc hs (DatV.mono hV (by simp) (fun q hq => Below.heap_alloc _ _ _ hq)) hok hbk hlc hdc
  have H0 := hidS hc0
  have H1 := hidS (fun (w' : World) (hb : Below w.heap.size w w') => hR src (mkB [97]) 1 w' da d dc hs (DatV.mono hV hb.size (fun q hq => hb.block q hq)) hok hbk hlc hdc)
  clear h hc0 hV hok hbk hR
  generalize d.len = dl at *
  go_enter Try.func11, Try.ntmps11
  go_wp2_with fail
  refine (H0.out _).mono ?_
  rintro e w1 ⟨hb1, o1, x1, rfl, hr1⟩
  have HB1 : Hid (Below w.heap.size w w1) := ((Below.refl _ _).alloc (Nat.le_refl _) _).trans (hb1.mono (by simp))
  have k0 : w1.cell? ⟨w.heap.size, 0, none⟩ = some (.slice da dl dc) := (hb1.cell (p := ⟨w.heap.size, 0, none⟩) (by show w.heap.size < _; simp)).trans (by simp)
  have HA1 := hidS (H.out 0 o1 x1 (.inl rfl) hr1)
  have Hc := hidS (H1.out w1 HB1.out)
  clear hb1 hr1 H0 H1
  go_wp2_with fail
  refine Hc.out.mono ?_
  rintro e w2 ⟨hb2, o2, x2, rfl, hr2⟩
  have HB2 : Hid (Below w.heap.size w w2) := HB1.out.trans (hb2.mono HB1.out.size)
  have HA2 := hidS (H.out 1 o2 x2 (.inr rfl) hr2)
  clear hb2 hr2 Hc H k0
  by_cases hbig : 2000 < want.size
  · obtain ⟨rfl, rfl⟩ := HA1.out.2 hbig
    obtain ⟨rfl, rfl⟩ := HA2.out.2 hbig
    go_wp2
    go_ret
    exact ⟨rfl, HB2.out⟩
  · obtain ⟨rfl, rfl⟩ := HA1.out.1 (by omega)
    obtain ⟨rfl, e2⟩ := HA2.out.1 (by omega)
    subst e2
    clear HA1 HA2
    go_wp2
    go_ret
    exact ⟨rfl, HB2.out⟩
set_option maxRecDepth 100000 in
set_option maxHeartbeats 2000000 in
theorem q21w (hR : PROKW 13) (w : World) (src want : ByteArray) (da : Option Addr) (d : Dat) (dc : Nat) (hs : src.size ≤ maxLen) (hV : DatV w w.heap.size da d) (hok : d.ok false) (hbk : d.fits) (hlc : d.len ≤ dc) (hdc : dc ≤ maxLen) (hw : want.size ≤ maxLen)
    (h : ∀ way o x, (way = 0 ∨ way = 1) → RenS src (mkB [97]) way d o x → (want.size ≤ 2000 → x = 0 ∧ o = want) ∧ (2000 < want.size → x = 13 ∧ o = ⟨#[]⟩)) :
    Calls Try.prog 11 #[.string src, .agg #[.slice da d.len dc], .string want] w fun e w' => e = .returned (.bool true) ∧ Below w.heap.size w w' := by
  have H := hidS h
  have hc0 := fun o => hR src (mkB [97]) 0 (w.alloc o) da d dc hs (DatV.mono hV (by simp) (fun q hq => Below.heap_alloc _ _ _ hq)) hok hbk hlc hdc
  have H0 := hidS hc0
  have H1 := hidS (fun (w' : World) (hb : Below w.heap.size w w') => hR src (mkB [97]) 1 w' da d dc hs (DatV.mono hV hb.size (fun q hq => hb.block q hq)) hok hbk hlc hdc)
  clear h hc0 hV hok hbk hR
  generalize d.len = dl at *
  go_enter Try.func11, Try.ntmps11
  go_wp2_with fail
  refine (H0.out _).mono ?_
  rintro e w1 ⟨hb1, o1, x1, rfl, hr1⟩
  have HB1 : Hid (Below w.heap.size w w1) := ((Below.refl _ _).alloc (Nat.le_refl _) _).trans (hb1.mono (by simp))
  have k0 : w1.cell? ⟨w.heap.size, 0, none⟩ = some (.slice da dl dc) := (hb1.cell (p := ⟨w.heap.size, 0, none⟩) (by show w.heap.size < _; simp)).trans (by simp)
  have HA1 := hidS (H.out 0 o1 x1 (.inl rfl) hr1)
  have Hc := hidS (H1.out w1 HB1.out)
  clear hb1 hr1 H0 H1
  go_wp2_with fail
  refine Hc.out.mono ?_
  rintro e w2 ⟨hb2, o2, x2, rfl, hr2⟩
  have HB2 : Hid (Below w.heap.size w w2) := HB1.out.trans (hb2.mono HB1.out.size)
  have HA2 := hidS (H.out 1 o2 x2 (.inr rfl) hr2)
  clear hb2 hr2 Hc H k0
  by_cases hbig : 2000 < want.size
  · obtain ⟨rfl, rfl⟩ := HA1.out.2 hbig
    obtain ⟨rfl, rfl⟩ := HA2.out.2 hbig
    go_wp2
    go_ret
    exact ⟨rfl, HB2.out⟩
  · obtain ⟨rfl, rfl⟩ := HA1.out.1 (by omega)
    obtain ⟨rfl, e2⟩ := HA2.out.1 (by omega)
    subst e2
    clear HA1 HA2
    go_wp2
    go_ret
    exact ⟨rfl, HB2.out⟩
set_option maxRecDepth 100000 in
set_option maxHeartbeats 2000000 in
theorem q17 (w : World) (b : ByteArray) (hb : b.size ≤ 1000000) : Calls Try.prog 10 #[.string b] w fun e w' => e = .returned (.string (mkB [123, 43, 97, 125] ++ b ++ mkB [123, 45, 125])) ∧ w' = w := by
  go_enter Try.func10, Try.ntmps10
  go_wp2
  go_ret
  exact ⟨rfl, rfl⟩
theorem k_src : (mkB [123, 43, 97, 125] ++ ⟨#[60, 97, 32, 117, 61, 34, 123, 120, 125, 34, 62]⟩ ++ mkB [123, 45, 125] : ByteArray) = mkB (tmOut [97] kSr) := by decide
theorem wsp_ok {ts : List Tm} {nm : ByteArray} {L : List (Nat × Nat)} (h : WSpec ts nm 0 L) : ¬ TBad ts (tno ts nm) := by
  rcases h with ⟨_, h, _⟩ | ⟨_, ⟨_, h, _⟩ | ⟨h, _⟩⟩
  · omega
  · omega
  · exact h
set_option maxRecDepth 100000 in
set_option maxHeartbeats 2000000 in
theorem q19 (w : World) (n s : ByteArray) : Calls Try.prog 9 #[.string n, .string s] w fun e w' => e = .returned (.agg #[.string n, .bool false, .string s, .slice none 0 0]) ∧ Below w.heap.size w w' := by
  go_enter Try.func9, Try.ntmps9
  go_wp2
  refine bodyPost_ret (v := .agg #[.string n, .bool false, .string s, .slice none 0 0]) (by simp [results, Try.results9, go_sem]) rfl ⟨rfl, ?_⟩
  exact (Below.refl _ _).alloc (Nat.le_refl _) _
set_option maxRecDepth 100000 in
set_option maxHeartbeats 2000000 in
theorem q18 (w : World) (a : Option Addr) (n c : Nat) : Calls Try.prog 8 #[.slice a n c] w fun e w' => e = .returned (.agg #[.slice a n c]) ∧ Below w.heap.size w w' := by
  go_enter Try.func8, Try.ntmps8
  go_wp2
  refine bodyPost_ret (v := .agg #[.slice a n c]) (by simp [results, Try.results8, go_sem]) rfl ⟨rfl, ?_⟩
  exact (Below.refl _ _).alloc (Nat.le_refl _) _
theorem k_both (o : ByteArray) (x way : Int) (hw : way = 0 ∨ way = 1) (h : RenS (mkB (tmOut [97] kSr)) (mkB [97]) way kDat o x) : x = 0 ∧ o = ⟨#[60, 97, 32, 117, 61, 34, 37, 50, 54, 34, 62]⟩ := by
  have hg := wsp_ok k_walk
  have := page_law (m := 1) k_reads (by rw [k_fnd]; decide) (hw.imp id (fun e => ⟨e, hg⟩)) (by rw [k_tno]; exact k_page) rfl h
  exact this.1 (by decide) (by decide)
set_option maxRecDepth 100000 in
set_option maxHeartbeats 4000000 in
theorem q13 (hW : PWOK 16) (hR : PROK 13) (w : World) : Calls Try.prog 14 #[] w fun e w' => e = .returned (.bool true) ∧ Below w.heap.size w w' := by
  have Hp := hidS (fun w' => q17 w' ⟨#[60, 97, 32, 117, 61, 34, 123, 120, 125, 34, 62]⟩ (by decide))
  rw [k_src] at Hp
  have HW := hidS (hW (mkB (tmOut [97] kSr)) (mkB [97]) w (by decide))
  have HR := hidS hR
  clear hW hR
  generalize hS : mkB (tmOut [97] kSr) = S at *
  have HS := hidS hS
  clear hS
  go_enter Try.func14, Try.ntmps14
  go_wp2_with (go_at_call 10; refine (Hp.out _).mono ?_; rintro e w' ⟨rfl, hw⟩; obtain rfl := hw.symm)
  refine HW.out.mono ?_
  rintro e w1 ⟨hb1, a, c, x, L, rfl, hown, hL, hPW⟩
  rw [← HS.out] at hPW
  obtain ⟨rfl, rfl⟩ := walk_law k_reads k_walk hPW
  obtain ⟨g, hg, c0, c1⟩ := use_at hown 0 (by simp)
  subst hg
  have HB1 := hidS hb1
  clear hPW hb1 hown hL
  go_wp2_with fail
  refine (q19 _ _ _).mono ?_
  rintro e w2 ⟨rfl, hb2⟩
  have HB2 : Hid (Below w.heap.size w w2) := HB1.out.trans (hb2.mono HB1.out.size)
  clear c0 c1 hb2
  go_wp2_with fail
  refine (q18 _ _ _ _).mono ?_
  rintro e w3 ⟨rfl, hb3⟩
  have hz3 : w2.heap.size < w3.heap.size := by have := hb3.size; simp at this; omega
  have f0 : w3.cell? ⟨w2.heap.size, 0, none⟩ = some (.string ⟨#[120]⟩) := (hb3.cell (p := ⟨w2.heap.size, 0, none⟩) (by show w2.heap.size < _; simp)).trans (by simp)
  have f1 : w3.cell? ⟨w2.heap.size, 1, none⟩ = some (.bool false) := (hb3.cell (p := ⟨w2.heap.size, 1, none⟩) (by show w2.heap.size < _; simp)).trans (by simp)
  have f2 : w3.cell? ⟨w2.heap.size, 2, none⟩ = some (.string ⟨#[38]⟩) := (hb3.cell (p := ⟨w2.heap.size, 2, none⟩) (by show w2.heap.size < _; simp)).trans (by simp)
  have f3 : w3.cell? ⟨w2.heap.size, 3, none⟩ = some (.slice none 0 0) := (hb3.cell (p := ⟨w2.heap.size, 3, none⟩) (by show w2.heap.size < _; simp)).trans (by simp)
  have hV : DatV w3 w3.heap.size (some ⟨w2.heap.size, 0, none⟩) kDat := .inr ⟨w2.heap.size, 0, rfl, hz3, f0, f1, f2, ⟨none, 0, f3, Nat.le_refl _, Nat.zero_le _, .inl rfl⟩, trivial⟩
  have HB3 : Hid (Below w.heap.size w w3) := (HB2.out.alloc HB2.out.size _).trans (hb3.mono (by simp; have := HB2.out.size; omega))
  have H21 := hidS (fun (w' : World) (hb : Below w3.heap.size w3 w') => q21 HR.out w' S ⟨#[60, 97, 32, 117, 61, 34, 37, 50, 54, 34, 62]⟩ (some ⟨w2.heap.size, 0, none⟩) kDat 1 (by rw [← HS.out]; decide) (DatV.mono hV hb.size (fun q hq => hb.block q hq)) ⟨trivial, trivial⟩ (by decide) (by decide) (by decide) (by decide) (fun way o x hw h => ⟨fun _ => k_both o x way hw (by rw [HS.out]; exact h), fun q => absurd q (by decide)⟩))
  clear f0 f1 f2 f3 hV hb3
  go_wp2_with fail
  refine (H21.out _ (by first | exact Below.refl _ _ | exact (Below.refl _ _).alloc (Nat.le_refl _) _)).mono ?_
  rintro e w4 ⟨rfl, hb4⟩
  have HB4 : Hid (Below w.heap.size w w4) := by first | exact HB3.out.trans (hb4.mono HB3.out.size) | exact (HB3.out.alloc HB3.out.size _).trans (hb4.mono (by simp; have := HB3.out.size; omega))
  clear hb4
  go_wp2
  go_ret
  exact ⟨rfl, HB4.out⟩
end Go.Proofs.Ytffkejkgkgfnhab
