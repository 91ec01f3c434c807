import Derived.Test.YtffkejkgkgfnhaaG25
import Derived.Test.YtffkejkgkgfnhaaG31
import Derived.KernelRfl
import Derived.Test.YtffkejkgkgfnhaaG11
import Derived.Test.YtffkejkgkgfnhaaG01
import Derived.Test.YtffkejkgkgfnhaaG02
import Derived.Deep.RegionHeld3
import Derived.Test.YtffkejkgkgfnhaaG29
namespace Go.Proofs.Ytffkejkgkgfnhaa
open Go.RowKit
set_option linter.unusedVariables false
theorem empty_app (l : List UInt8) : (⟨#[]⟩ : ByteArray) ++ mkB l = mkB l := by
  apply ByteArray.ext
  apply Array.ext'
  simp [mkB]
/-- what Render answers where nothing goes wrong but the bounds -/
theorem page_law {s nm : ByteArray} {ts : List Tm} {way : Int} {d : Dat} {o : ByteArray} {x : Int} {v : Pg1} {m : Nat} (hr : Reads s ts) (hf : 0 ≤ fndF nm ts 0) (hw : way = 0 ∨ (way = 1 ∧ ¬ TBad ts (tno ts nm))) (hp : ppg ts m (bod ts (tno ts nm)) [d] 0 = some v) (hx : v.x = 0) (h : RenS s nm way d o x) :
    (v.k ≤ 500 → v.w.length ≤ 2000 → x = 0 ∧ o = mkB v.w) ∧ (v.k ≤ 500 → 2000 < v.w.length → x = 13 ∧ o = ⟨#[]⟩) ∧ (500 < v.k → v.w.length ≤ 2000 → x = 12 ∧ o = ⟨#[]⟩) := by
  obtain ⟨A, a1, a2, a3, a4, a5⟩ := hr
  have key : ∀ o' x', endS (decide (way = 0)) (pagR ts nm (decide (way = 0)) d) o' x' → o = o' ∧ x = x' := fun o' x' he => renS_unique h (.inr ⟨ts, A, a1, a2, a3, a4, a5, .inr (.inr (.inr ⟨hf, hw, he⟩))⟩)
  have pp := pln_all ts (decide (way = 0)) m 500 (bod ts (tno ts nm)) [d] pst0 v (by simp) (by simp [Fit, pst0, ByteArray.size]) rfl hp
  change PP pst0 (pagR ts nm (decide (way = 0)) d) v at pp
  have e1 : pst0.steps = 0 := rfl
  have e2 : pst0.out.size = 0 := rfl
  refine ⟨fun h1 h2 => ?_, fun h1 h2 => ?_, fun h1 h2 => ?_⟩
  · obtain ⟨f1, f2⟩ := pp.fits (by omega) (by omega)
    have := key (mkB v.w) 0 (by
      rw [f1]
      refine .inr (.inr ⟨rfl, fun _ => ?_, rfl, ?_⟩)
      · show ctxO (pst0.out ++ mkB v.w) = 0
        rw [f2, hx]
      · show mkB v.w = ⟨#[]⟩ ++ mkB v.w
        rw [empty_app])
    exact ⟨this.2, this.1⟩
  · have f1 := pp.out (by omega) (by omega)
    have := key ⟨#[]⟩ 13 (.inl ⟨by rw [f1]; decide, f1.symm, rfl⟩)
    exact ⟨this.2, this.1⟩
  · have f1 := pp.steps (by omega) (by omega)
    have := key ⟨#[]⟩ 12 (.inl ⟨by rw [f1]; decide, f1.symm, rfl⟩)
    exact ⟨this.2, this.1⟩
/-- what Walks answers -/
theorem walk_law {s nm : ByteArray} {ts : List Tm} {x y : Int} {L M : List (Nat × Nat)} (hr : Reads s ts) (hw : WSpec ts nm y M) (h : PWalk s nm x L) : x = y ∧ L = M := by
  obtain ⟨A, a1, a2, a3, a4, a5⟩ := hr
  exact walks_agree h (.inr ⟨ts, A, a1, a2, a3, a4, a5, hw⟩)
theorem wspec_good {ts : List Tm} {nm : ByteArray} {L : List (Nat × Nat)} (h : WSpec ts nm 0 L) : ¬ TBad ts (tno ts nm) := by
  rcases h with ⟨_, h, _⟩ | ⟨_, ⟨_, h, _⟩ | ⟨h, _⟩⟩
  · omega
  · omega
  · exact h
/-- Ends -/
theorem ends_law {s nm : ByteArray} {d : Dat} {o : ByteArray} {x : Int} (h : RenS s nm 0 d o x) : (x ≠ 0 → o = ⟨#[]⟩) ∧ (x = 0 → ctxO o = 0 ∧ o.size ≤ 2000) := by
  rcases h with ⟨z, k1, k2, k3⟩ | ⟨ts, A, k0, k1, k2, k3, k4, k5⟩
  · exact ⟨fun _ => k3, fun e => absurd e k2⟩
  · rcases k5 with ⟨_, _, rfl, rfl⟩ | ⟨_, _, rfl, rfl⟩ | ⟨_, _, _, rfl, rfl⟩ | ⟨_, _, he⟩
    · exact ⟨fun _ => rfl, fun e => by omega⟩
    · exact ⟨fun _ => rfl, fun e => by omega⟩
    · exact ⟨fun _ => rfl, fun e => by omega⟩
    · have hfit := pagF_fit ts true 500 (bod ts (tno ts nm)) [d] pst0 (by simp [Fit, pst0, ByteArray.size])
      change Fit (pagR ts nm true d) at hfit
      change endS true (pagR ts nm true d) o x at he
      rcases he with ⟨b1, rfl, rfl⟩ | ⟨_, _, _, rfl, rfl⟩ | ⟨_, b2, rfl, rfl⟩
      · exact ⟨fun _ => rfl, fun e => absurd e b1⟩
      · exact ⟨fun _ => rfl, fun e => by omega⟩
      · exact ⟨fun e => absurd rfl e, fun _ => ⟨b2 rfl, hfit.1⟩⟩
end Go.Proofs.Ytffkejkgkgfnhaa
namespace Go.Proofs.Ytffkejkgkgfnhaa
open Go.RowKit
set_option linter.unusedVariables false
theorem nmL_one (u : UInt8) (h : 97 ≤ u.toNat ∧ u.toNat ≤ 122) : nmL [u] := ⟨by simp, fun v hv => by simp at hv; subst hv; exact h⟩
theorem lkp_one (nm : ByteArray) (d : Dat) : lkp nm [d] = d.fnd nm := by
  simp [lkp]
theorem nm_self (b : ByteArray) : nmEq b b = true := by simp [nmEq]
def kSr : Sr := .text [60, 97, 32, 117, 61, 34] (.hole [120] (.text [34, 62] .nil))
def kTs : List Tm := [tmTm [97] kSr 0]
theorem k_fnd : fndF (mkB [97]) kTs 0 = 0 := by simp [kTs, fndF, tmTm, nmEq_mkB]
theorem k_tno : tno kTs (mkB [97]) = 0 := by simp [tno, k_fnd]
theorem k_reads : Reads (mkB (tmOut [97] kSr)) kTs := by
  refine reads_one (nmL_one 97 (by decide)) ⟨⟨by decide, by decide⟩, rfl, nmL_one 120 (by decide), ⟨by decide, by decide⟩, rfl, trivial⟩ (by decide) (by decide)
theorem k_walk : WSpec kTs (mkB [97]) 0 [(10, 17)] := by
  refine wspec_one kTs (mkB [97]) ⟨0, [(10, 17)], []⟩ (by rw [k_fnd]; decide) ?_ rfl (by simp [Srt]) (by simp)
  rw [k_tno]
  rfl
def kDat : Dat := .fld (mkB [120]) false (mkB [38]) .nil .nil
theorem k_page : ppg kTs 1 (bod kTs 0) [kDat] 0 = some ⟨[60, 97, 32, 117, 61, 34, 37, 50, 54, 34, 62], 1, 0⟩ := by
  have hl : lkp (mkB [120]) [kDat] = some (mkB [120], false, mkB [38], .nil) := by rw [lkp_one]; simp [kDat, Dat.fnd, nm_self]
  show bdyP (ppg kTs 0) kTs [kDat] (kSr.nds 4) 0 = _
  simp only [kSr, Sr.nds, bdyP, insP, hl]
  rfl
def fldD (nm : List UInt8) (t : ByteArray) (r : Dat) : Dat := .fld (mkB nm) false t .nil r
def esT (t : ByteArray) : List UInt8 := btsW (escL 0 t.data.toList)
end Go.Proofs.Ytffkejkgkgfnhaa
namespace Go.Proofs.Ytffkejkgkgfnhaa
open Go.RowKit
set_option linter.unusedVariables false
set_option maxRecDepth 100000 in
set_option maxHeartbeats 2000000 in
theorem q21 (hR : PROK 16) (w : World) (src want : ByteArray) (da : Option Addr) (d : Dat) (dc : Nat) (hs : src.size ≤ maxLen) (hV : DatV w w.heap.size da d) (hok : d.ok false) (hbk : d.bulk ≤ 1048576) (hlc : d.len ≤ dc) (hdc : dc ≤ maxLen) (hw : want.size ≤ maxLen)
    (h : ∀ way o x, (way = 0 ∨ way = 1) → RenS src (mkB [97]) way d o x → (want.size ≤ 2000 → x = 0 ∧ o = want) ∧ (2000 < want.size → x = 13 ∧ o = ⟨#[]⟩)) :
    Calls Try.prog 22 #[.string src, .agg #[.slice da d.len dc], .string want] w fun e w' => e = .returned (.bool true) ∧ Below w.heap.size w w' := by
  have H := hidS h
  have hc0 := fun o => hR src (mkB [97]) 0 (w.alloc o) da d dc hs (DatV.mono hV (by simp) (fun q hq => Below.heap_alloc _ _ _ hq)) hok hbk hlc hdc
  have H0 := hidS hc0
  have H1 := hidS (fun (w' : World) (hb : Below w.heap.size w w') => hR src (mkB [97]) 1 w' da d dc hs (DatV.mono hV hb.size (fun q hq => hb.block q hq)) hok hbk hlc hdc)
  clear h hc0 hV hok hbk hR
  generalize d.len = dl at *
  go_enter Try.func22, Try.ntmps22
  go_wp2_with fail
  refine (H0.out _).mono ?_
  rintro e w1 ⟨hb1, o1, x1, rfl, hr1⟩
  have HB1 : Hid (Below w.heap.size w w1) := ((Below.refl _ _).alloc (Nat.le_refl _) _).trans (hb1.mono (by simp))
  have k0 : w1.cell? ⟨w.heap.size, 0, none⟩ = some (.slice da dl dc) := (hb1.cell (p := ⟨w.heap.size, 0, none⟩) (by show w.heap.size < _; simp)).trans (by simp)
  have HA1 := hidS (H.out 0 o1 x1 (.inl rfl) hr1)
  have Hc := hidS (H1.out w1 HB1.out)
  clear hb1 hr1 H0 H1
  go_wp2_with fail
  refine Hc.out.mono ?_
  rintro e w2 ⟨hb2, o2, x2, rfl, hr2⟩
  have HB2 : Hid (Below w.heap.size w w2) := HB1.out.trans (hb2.mono HB1.out.size)
  have HA2 := hidS (H.out 1 o2 x2 (.inr rfl) hr2)
  clear hb2 hr2 Hc H k0
  by_cases hbig : 2000 < want.size
  · obtain ⟨rfl, rfl⟩ := HA1.out.2 hbig
    obtain ⟨rfl, rfl⟩ := HA2.out.2 hbig
    go_wp2
    go_ret
    exact ⟨rfl, HB2.out⟩
  · obtain ⟨rfl, rfl⟩ := HA1.out.1 (by omega)
    obtain ⟨rfl, e2⟩ := HA2.out.1 (by omega)
    subst e2
    clear HA1 HA2
    go_wp2
    go_ret
    exact ⟨rfl, HB2.out⟩
set_option maxRecDepth 100000 in
set_option maxHeartbeats 2000000 in
theorem q21w (hR : PROKW 16) (w : World) (src want : ByteArray) (da : Option Addr) (d : Dat) (dc : Nat) (hs : src.size ≤ maxLen) (hV : DatV w w.heap.size da d) (hok : d.ok false) (hbk : d.fits) (hlc : d.len ≤ dc) (hdc : dc ≤ maxLen) (hw : want.size ≤ maxLen)
    (h : ∀ way o x, (way = 0 ∨ way = 1) → RenS src (mkB [97]) way d o x → (want.size ≤ 2000 → x = 0 ∧ o = want) ∧ (2000 < want.size → x = 13 ∧ o = ⟨#[]⟩)) :
    Calls Try.prog 22 #[.string src, .agg #[.slice da d.len dc], .string want] w fun e w' => e = .returned (.bool true) ∧ Below w.heap.size w w' := by
  have H := hidS h
  have hc0 := fun o => hR src (mkB [97]) 0 (w.alloc o) da d dc hs (DatV.mono hV (by simp) (fun q hq => Below.heap_alloc _ _ _ hq)) hok hbk hlc hdc
  have H0 := hidS hc0
  have H1 := hidS (fun (w' : World) (hb : Below w.heap.size w w') => hR src (mkB [97]) 1 w' da d dc hs (DatV.mono hV hb.size (fun q hq => hb.block q hq)) hok hbk hlc hdc)
  clear h hc0 hV hok hbk hR
  generalize d.len = dl at *
  go_enter Try.func22, Try.ntmps22
  go_wp2_with fail
  refine (H0.out _).mono ?_
  rintro e w1 ⟨hb1, o1, x1, rfl, hr1⟩
  have HB1 : Hid (Below w.heap.size w w1) := ((Below.refl _ _).alloc (Nat.le_refl _) _).trans (hb1.mono (by simp))
  have k0 : w1.cell? ⟨w.heap.size, 0, none⟩ = some (.slice da dl dc) := (hb1.cell (p := ⟨w.heap.size, 0, none⟩) (by show w.heap.size < _; simp)).trans (by simp)
  have HA1 := hidS (H.out 0 o1 x1 (.inl rfl) hr1)
  have Hc := hidS (H1.out w1 HB1.out)
  clear hb1 hr1 H0 H1
  go_wp2_with fail
  refine Hc.out.mono ?_
  rintro e w2 ⟨hb2, o2, x2, rfl, hr2⟩
  have HB2 : Hid (Below w.heap.size w w2) := HB1.out.trans (hb2.mono HB1.out.size)
  have HA2 := hidS (H.out 1 o2 x2 (.inr rfl) hr2)
  clear hb2 hr2 Hc H k0
  by_cases hbig : 2000 < want.size
  · obtain ⟨rfl, rfl⟩ := HA1.out.2 hbig
    obtain ⟨rfl, rfl⟩ := HA2.out.2 hbig
    go_wp2
    go_ret
    exact ⟨rfl, HB2.out⟩
  · obtain ⟨rfl, rfl⟩ := HA1.out.1 (by omega)
    obtain ⟨rfl, e2⟩ := HA2.out.1 (by omega)
    subst e2
    clear HA1 HA2
    go_wp2
    go_ret
    exact ⟨rfl, HB2.out⟩
set_option maxRecDepth 100000 in
set_option maxHeartbeats 2000000 in
theorem q17 (w : World) (b : ByteArray) (hb : b.size ≤ 1000000) : Calls Try.prog 21 #[.string b] w fun e w' => e = .returned (.string (mkB [123, 43, 97, 125] ++ b ++ mkB [123, 45, 125])) ∧ w' = w := by
  go_enter Try.func21, Try.ntmps21
  go_wp2
  go_ret
  exact ⟨rfl, rfl⟩
theorem k_src : (mkB [123, 43, 97, 125] ++ ⟨#[60, 97, 32, 117, 61, 34, 123, 120, 125, 34, 62]⟩ ++ mkB [123, 45, 125] : ByteArray) = mkB (tmOut [97] kSr) := by decide
theorem wsp_ok {ts : List Tm} {nm : ByteArray} {L : List (Nat × Nat)} (h : WSpec ts nm 0 L) : ¬ TBad ts (tno ts nm) := by
  rcases h with ⟨_, h, _⟩ | ⟨_, ⟨_, h, _⟩ | ⟨h, _⟩⟩
  · omega
  · omega
  · exact h
set_option maxRecDepth 100000 in
set_option maxHeartbeats 2000000 in
theorem q19 (w : World) (n s : ByteArray) : Calls Try.prog 19 #[.string n, .string s] w fun e w' => e = .returned (.agg #[.string n, .bool false, .string s, .slice none 0 0]) ∧ Below w.heap.size w w' := by
  go_enter Try.func19, Try.ntmps19
  go_wp2
  refine bodyPost_ret (v := .agg #[.string n, .bool false, .string s, .slice none 0 0]) (by simp [results, Try.results19, go_sem]) rfl ⟨rfl, ?_⟩
  exact (Below.refl _ _).alloc (Nat.le_refl _) _
set_option maxRecDepth 100000 in
set_option maxHeartbeats 2000000 in
theorem q18 (w : World) (a : Option Addr) (n c : Nat) : Calls Try.prog 23 #[.slice a n c] w fun e w' => e = .returned (.agg #[.slice a n c]) ∧ Below w.heap.size w w' := by
  go_enter Try.func23, Try.ntmps23
  go_wp2
  refine bodyPost_ret (v := .agg #[.slice a n c]) (by simp [results, Try.results23, go_sem]) rfl ⟨rfl, ?_⟩
  exact (Below.refl _ _).alloc (Nat.le_refl _) _
theorem k_both (o : ByteArray) (x way : Int) (hw : way = 0 ∨ way = 1) (h : RenS (mkB (tmOut [97] kSr)) (mkB [97]) way kDat o x) : x = 0 ∧ o = ⟨#[60, 97, 32, 117, 61, 34, 37, 50, 54, 34, 62]⟩ := by
  have hg := wsp_ok k_walk
  have := page_law (m := 1) k_reads (by rw [k_fnd]; decide) (hw.imp id (fun e => ⟨e, hg⟩)) (by rw [k_tno]; exact k_page) rfl h
  exact this.1 (by decide) (by decide)
set_option maxRecDepth 100000 in
set_option maxHeartbeats 4000000 in
theorem q13 (hW : PWOK 15) (hR : PROK 16) (w : World) : Calls Try.prog 14 #[] w fun e w' => e = .returned (.bool true) ∧ Below w.heap.size w w' := by
  have Hp := hidS (fun w' => q17 w' ⟨#[60, 97, 32, 117, 61, 34, 123, 120, 125, 34, 62]⟩ (by decide))
  rw [k_src] at Hp
  have HW := hidS (hW (mkB (tmOut [97] kSr)) (mkB [97]) w (by decide))
  have HR := hidS hR
  clear hW hR
  generalize hS : mkB (tmOut [97] kSr) = S at *
  have HS := hidS hS
  clear hS
  go_enter Try.func14, Try.ntmps14
  go_wp2_with (go_at_call 21; refine (Hp.out _).mono ?_; rintro e w' ⟨rfl, hw⟩; obtain rfl := hw.symm)
  refine HW.out.mono ?_
  rintro e w1 ⟨hb1, a, c, x, L, rfl, hown, hL, hPW⟩
  rw [← HS.out] at hPW
  obtain ⟨rfl, rfl⟩ := walk_law k_reads k_walk hPW
  obtain ⟨g, hg, c0, c1⟩ := use_at hown 0 (by simp)
  subst hg
  have HB1 := hidS hb1
  clear hPW hb1 hown hL
  go_wp2_with fail
  refine (q19 _ _ _).mono ?_
  rintro e w2 ⟨rfl, hb2⟩
  have HB2 : Hid (Below w.heap.size w w2) := HB1.out.trans (hb2.mono HB1.out.size)
  clear c0 c1 hb2
  go_wp2_with fail
  refine (q18 _ _ _ _).mono ?_
  rintro e w3 ⟨rfl, hb3⟩
  have hz3 : w2.heap.size < w3.heap.size := by have := hb3.size; simp at this; omega
  have f0 : w3.cell? ⟨w2.heap.size, 0, none⟩ = some (.string ⟨#[120]⟩) := (hb3.cell (p := ⟨w2.heap.size, 0, none⟩) (by show w2.heap.size < _; simp)).trans (by simp)
  have f1 : w3.cell? ⟨w2.heap.size, 1, none⟩ = some (.bool false) := (hb3.cell (p := ⟨w2.heap.size, 1, none⟩) (by show w2.heap.size < _; simp)).trans (by simp)
  have f2 : w3.cell? ⟨w2.heap.size, 2, none⟩ = some (.string ⟨#[38]⟩) := (hb3.cell (p := ⟨w2.heap.size, 2, none⟩) (by show w2.heap.size < _; simp)).trans (by simp)
  have f3 : w3.cell? ⟨w2.heap.size, 3, none⟩ = some (.slice none 0 0) := (hb3.cell (p := ⟨w2.heap.size, 3, none⟩) (by show w2.heap.size < _; simp)).trans (by simp)
  have hV : DatV w3 w3.heap.size (some ⟨w2.heap.size, 0, none⟩) kDat := .inr ⟨w2.heap.size, 0, rfl, hz3, f0, f1, f2, ⟨none, 0, f3, Nat.le_refl _, Nat.zero_le _, .inl rfl⟩, trivial⟩
  have HB3 : Hid (Below w.heap.size w w3) := (HB2.out.alloc HB2.out.size _).trans (hb3.mono (by simp; have := HB2.out.size; omega))
  have H21 := hidS (fun (w' : World) (hb : Below w3.heap.size w3 w') => q21 HR.out w' S ⟨#[60, 97, 32, 117, 61, 34, 37, 50, 54, 34, 62]⟩ (some ⟨w2.heap.size, 0, none⟩) kDat 1 (by rw [← HS.out]; decide) (DatV.mono hV hb.size (fun q hq => hb.block q hq)) ⟨trivial, trivial⟩ (by decide) (by decide) (by decide) (by decide) (fun way o x hw h => ⟨fun _ => k_both o x way hw (by rw [HS.out]; exact h), fun q => absurd q (by decide)⟩))
  clear f0 f1 f2 f3 hV hb3
  go_wp2_with fail
  refine (H21.out _ (by first | exact Below.refl _ _ | exact (Below.refl _ _).alloc (Nat.le_refl _) _)).mono ?_
  rintro e w4 ⟨rfl, hb4⟩
  have HB4 : Hid (Below w.heap.size w w4) := by first | exact HB3.out.trans (hb4.mono HB3.out.size) | exact (HB3.out.alloc HB3.out.size _).trans (hb4.mono (by simp; have := HB3.out.size; omega))
  clear hb4
  go_wp2
  go_ret
  exact ⟨rfl, HB4.out⟩
set_option maxRecDepth 100000 in
set_option maxHeartbeats 4000000 in
theorem q7 (hW : PWOK 15) (hR : PROK 16) (hRW : PROKW 16) (w : World) (src nm : ByteArray) (da : Option Addr) (d : Dat) (dc : Nat) (hs : src.size ≤ maxLen) (hV : DatV w w.heap.size da d) (hok : d.ok false) (hbk : d.fits) (hlc : d.len ≤ dc) (hdc : dc ≤ maxLen) :
    Calls Try.prog 7 #[.string src, .string nm, .agg #[.slice da d.len dc]] w fun e w' => e = .returned (.bool true) ∧ Below w.heap.size w w' := by
  have Hk := hidS (fun w' => q13 hW hR w')
  have HR := hidS (fun (w' : World) (hb : Below w.heap.size w w') => hRW src nm 0 w' da d dc hs (DatV.mono hV hb.size (fun q hq => hb.block q hq)) hok hbk hlc hdc)
  have hl : d.len ≤ dc := hlc
  clear hW hR hRW hV hok hbk
  generalize d.len = dl at *
  go_enter Try.func7, Try.ntmps7
  go_wp2_with fail
  refine (Hk.out _).mono ?_
  rintro e w1 ⟨rfl, hb1⟩
  have HB1 : Hid (Below w.heap.size w w1) := ((Below.refl _ _).alloc (Nat.le_refl _) _).trans (hb1.mono (by simp))
  have k0 : w1.cell? ⟨w.heap.size, 0, none⟩ = some (.slice da dl dc) := (hb1.cell (p := ⟨w.heap.size, 0, none⟩) (by show w.heap.size < _; simp)).trans (by simp)
  have Hc := hidS (HR.out w1 HB1.out)
  clear hb1 Hk HR
  go_wp2_with fail
  refine Hc.out.mono ?_
  rintro e w2 ⟨hb2, o, x, rfl, hr⟩
  have HB2 : Hid (Below w.heap.size w w2) := HB1.out.trans (hb2.mono HB1.out.size)
  obtain ⟨e1, e2⟩ := ends_law hr
  clear hb2 hr Hc k0
  by_cases hx : x = 0
  · subst hx
    obtain ⟨h1, h2⟩ := e2 rfl
    have Hs := hidS (fun w' => c10 0 o w' (by unfold maxLen; omega))
    change Hid (∀ w', Calls Try.prog 10 _ w' fun e w'' => e = .returned (.int .i64 (ctxO o)) ∧ w'' = w') at Hs
    rw [h1] at Hs
    clear e1 e2 h1
    go_wp2_with (go_at_call 10; refine (Hs.out _).mono ?_; rintro e w' ⟨rfl, hw⟩; obtain rfl := hw.symm)
    go_ret
    exact ⟨congrArg (fun b => Ending.returned (.bool b)) (decide_eq_true (by omega)), HB2.out⟩
  · have ho := e1 hx
    subst ho
    have hx' : (x == 0) = false := by simpa using hx
    have hx2 : (x != 0) = true := by simpa using hx
    clear e1 e2
    go_wp2
    go_ret
    exact ⟨rfl, HB2.out⟩
set_option maxRecDepth 100000 in
set_option maxHeartbeats 4000000 in
theorem q6 (hW : PWOK 15) (hR : PROK 16) (hRW : PROKW 16) (w : World) (src nm : ByteArray) (da : Option Addr) (d : Dat) (dc : Nat) (hs : src.size ≤ maxLen) (hV : DatV w w.heap.size da d) (hok : d.ok false) (hbk : d.fits) (hlc : d.len ≤ dc) (hdc : dc ≤ maxLen) :
    Calls Try.prog 6 #[.string src, .string nm, .agg #[.slice da d.len dc]] w fun e w' => e = .returned (.bool true) ∧ Below w.heap.size w w' := by
  have Hk := hidS (fun w' => q13 hW hR w')
  have HW := hidS (fun w' => hW src nm w' hs)
  have HR := hidS (fun (way : Int) (w' : World) (hb : Below w.heap.size w w') => hRW src nm way w' da d dc hs (DatV.mono hV hb.size (fun q hq => hb.block q hq)) hok hbk hlc hdc)
  clear hW hR hRW hV hok hbk
  generalize d.len = dl at *
  go_enter Try.func6, Try.ntmps6
  go_wp2_with fail
  refine (Hk.out _).mono ?_
  rintro e w1 ⟨rfl, hb1⟩
  have HB1 : Hid (Below w.heap.size w w1) := ((Below.refl _ _).alloc (Nat.le_refl _) _).trans (hb1.mono (by simp))
  have hz1 : w.heap.size < w1.heap.size := by have := hb1.size; simp at this; omega
  have k0 : w1.cell? ⟨w.heap.size, 0, none⟩ = some (.slice da dl dc) := (hb1.cell (p := ⟨w.heap.size, 0, none⟩) (by show w.heap.size < _; simp)).trans (by simp)
  clear hb1 Hk
  go_wp2_with fail
  refine (HW.out _).mono ?_
  rintro e w2 ⟨hb2, a, c, x, L, rfl, hown, hL, hPW⟩
  have HPW := hidS hPW
  have HB2 : Hid (Below w.heap.size w w2) := HB1.out.trans (hb2.mono (by omega))
  have hz2 : w.heap.size < w2.heap.size := by have := hb2.size; omega
  have k1 := (hb2.cell (p := ⟨w.heap.size, 0, none⟩) hz1).trans k0
  have Hc := hidS (HR.out 0 w2 HB2.out)
  clear hb2 hown hPW k0
  go_wp2_with fail
  refine Hc.out.mono ?_
  rintro e w3 ⟨hb3, o0, x0, rfl, hr0⟩
  have HR0 := hidS hr0
  have HB3 : Hid (Below w.heap.size w w3) := HB2.out.trans (hb3.mono (by omega))
  have k2 := (hb3.cell (p := ⟨w.heap.size, 0, none⟩) hz2).trans k1
  have Hd := hidS (HR.out 1 w3 HB3.out)
  clear hb3 hr0 k1 Hc
  go_wp2_with fail
  refine Hd.out.mono ?_
  rintro e w4 ⟨hb4, o1, x1, rfl, hr1⟩
  have HB4 : Hid (Below w.heap.size w w4) := HB3.out.trans (hb4.mono HB3.out.size)
  obtain ⟨r1, r2, r3⟩ := ways_law HPW.out HR0.out hr1
  clear hb4 hr1 k2 Hd HR
  by_cases h0 : x = 0
  · subst h0
    obtain ⟨rfl, rfl, n9, n10, n11⟩ := r1 rfl
    have m9 : (x0 == 9) = false := by simpa using n9
    have m10 : (x0 == 10) = false := by simpa using n10
    have m11 : (x0 == 11) = false := by simpa using n11
    clear r1 r2 r3 n9 n10 n11
    go_wp2
    go_ret
    exact ⟨rfl, HB4.out⟩
  · by_cases h6 : x = 6
    · subst h6
      obtain ⟨rfl, rfl, rfl⟩ := r2 rfl
      clear r1 r2 r3
      go_wp2
      go_ret
      exact ⟨rfl, HB4.out⟩
    · obtain ⟨rfl, rfl, rfl, rfl, rfl⟩ := r3 h0 h6
      have m0 : (x1 == 0) = false := by simpa using h0
      have m6 : (x1 == 6) = false := by simpa using h6
      clear r1 r2 r3
      go_wp2
      go_ret
      exact ⟨rfl, HB4.out⟩
end Go.Proofs.Ytffkejkgkgfnhaa
namespace Go.Proofs.Ytffkejkgkgfnhaa
open Go.ChangeShapes Go.WideShapes Go.ChangeAt Go.RowKit Go.Deep
open Go.ChangeMaps (open_string shut_string)
set_option linter.unusedVariables false
set_option maxRecDepth 100000 in
theorem lift_ways (os : Os) (started : os.Started) (H : Type) (enc : TypeId × Value → H) :
    ReturnsInHanded {} Try.checked os 6 .any (Rows.waysSpec.pre6 enc Try.prog Try.f6 Rows.waysRow.domain false) (Rows.waysSpec.post enc Try.prog Try.f6 false true false false) := by
  refine returnsInHanded_of_change (C := Try.checked) ownK started (by kernel_rfl) Try.func6
    (ChangeSpec.witness6 (enc := enc) (C := Try.checked) false ⟨#[], #[.string ByteArray.empty, .string ByteArray.empty, .agg #[.slice none 0 0]], []⟩ 8 (by kernel_rfl) (by kernel_rfl) (by kernel_rfl) (by kernel_rfl)) ?_
  intro W base args ds gs before hval0 hW hcnd _
  have hval : ∀ (j : Nat) t v, Try.f6.params[j]? = some t → args[j]? = some v → Value.okWide Try.prog W .any base t v := hval0
  have hW' := hW
  obtain ⟨p, q, hA0, hV, rfl, hfz, hnd⟩ := hW
  have hA : DataW.TrodAll enc Try.prog W 0 (fun _ => true) true Try.f6.params.toList args.toList ds p := hA0
  rw [Try.params6] at hA hval
  obtain ⟨v0, vs0, d0, ds0, p0, q0, hargs, rfl, rfl, h0, r0⟩ := trodAll_cons hA
  obtain ⟨v1, vs1, d1, ds1, p1, q1, rfl, rfl, rfl, h1, r1⟩ := trodAll_cons r0
  obtain ⟨v2, vs2, d2, ds2, p2, q2, rfl, rfl, rfl, h2, r2⟩ := trodAll_cons r1
  obtain ⟨rfl, rfl, rfl⟩ := trodAll_nil r2
  obtain rfl : args = #[v0, v1, v2] := by cases args; simp_all
  obtain ⟨rfl, rfl⟩ := trodVars_none hV
  obtain ⟨a0, rfl, rfl, rfl, w0⟩ := open_string Try.underlying9 (hval 0 9 v0 rfl rfl) h0
  obtain ⟨a1, rfl, rfl, rfl, w1⟩ := open_string Try.underlying9 (hval 1 9 v1 rfl rfl) h1
  have k2 := h2
  have lt2 : ∀ x ∈ p2, x.block < W.heap.size := by obtain ⟨m, hm⟩ := k2; exact DataW.trod_lt m _ _ _ hm
  obtain ⟨da, d, dc, rfl, hok, hlc, hdc, hV2, hfit⟩ : ∃ (a : Option Addr) (d : Dat) (c : Nat), v2 = .agg #[.slice a d.len c] ∧ d.ok false ∧ d.len ≤ c ∧ c ≤ maxLen ∧ DatV W W.heap.size a d ∧ d.fits := by
    obtain ⟨cs, rfl, hcs⟩ := okWide_struct Try.underlying33 (hval 2 33 v2 rfl rfl)
    obtain ⟨fuel, hf⟩ := h2
    obtain ⟨fv, m, x3, e1, e2, _⟩ := open_rw hf
    obtain ⟨a, d, c, rfl, g1, g2, g3, g4, _, g5⟩ := (open_datQ _ m fv x3 (Nat.le_refl _)).1 e2
    have e3 : cs = #[.slice a d.len c] := by
      have e4 : cs.toList = [.slice a d.len c] := e1
      cases cs; simp_all
    exact ⟨a, d, c, by rw [e3], g1, g2, g3, g4, g5⟩
  clear hA0 hval0
  refine (q6 p25 b30 b30w W a0 a1 da d dc w0 hV2 hok hfit hlc hdc).mono fun e W' ⟨he, bel⟩ => ?_
  subst he
  exact ⟨_, rfl, _, _, _, [], _, [], hW', trodAll_mk1 (shut_bool Try.underlying4 _), (trodAll_cons_mk (shut_string Try.underlying9 w0) (trodAll_cons_mk (shut_string Try.underlying9 w1) (trodAll_cons_mk (Below.trod laidK (by kernel_rfl) (of_decide_eq_true (by kernel_rfl)) k2 bel lt2) trodAll_mk0))), rfl, bel.frame _, fun h => by cases h⟩
theorem over_ways : Rows.waysRow.holds Try.pinned (OpenSpec.ofChange Rows.waysSpec) :=
  OpenClaim.holds_of_wide 6 Try.f6 rfl rfl rfl rfl rfl rfl rfl ⟨rfl, rfl, rfl, rfl, rfl⟩ rfl rfl rfl rfl rfl (by kernel_rfl) Try.func6 (by kernel_rfl)
    (of_decide_eq_true (by kernel_rfl)) (by unfold Func.isWrapper; first | (rw [if_pos (by decide +kernel)]; kernel_rfl) | (rw [if_neg (by decide +kernel)]; exact ⟨rfl, rfl⟩))
    (fun os started H enc _ => lift_ways os started H enc)
theorem ways_proved : Rows.WaysSaid := over_ways
end Go.Proofs.Ytffkejkgkgfnhaa
