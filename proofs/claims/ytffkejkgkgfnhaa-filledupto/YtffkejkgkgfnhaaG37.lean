import Derived.Test.YtffkejkgkgfnhaaG36
import Derived.Test.YtffkejkgkgfnhaaG23
import Derived.Deep.RegionLaw
namespace Go.Proofs.Ytffkejkgkgfnhaa
open Go.RowKit
set_option linter.unusedVariables false
set_option maxRecDepth 100000 in
set_option maxHeartbeats 8000000 in
theorem qfil (hW : PWOK 15) (hR : PROKW 16) (w : World) (ka ta : Option Addr) (kl kc tl tc : Nat)
    (hK : kl = 0 ∨ ∃ b off, ka = some ⟨b, off, none⟩ ∧ b < w.heap.size ∧ ∀ i, i < kl → ∃ n : Int, (-9223372036854775808 ≤ n ∧ n ≤ 9223372036854775807) ∧ w.cell? ⟨b, off + i, none⟩ = some (.int .i64 n))
    (hT : tl = 0 ∨ ∃ b off, ta = some ⟨b, off, none⟩ ∧ b < w.heap.size ∧ ∀ i, i < tl → ∃ s : ByteArray, s.size ≤ 1048576 ∧ w.cell? ⟨b, off + i, none⟩ = some (.string s)) :
    Calls Try.prog 8 #[.slice ka kl kc, .slice ta tl tc] w fun e w' => e = .returned (.bool true) ∧ Below w.heap.size w w' := by
  obtain ⟨i0, hi, hz0, hz1, hzz⟩ := info_parts infoUseF
  obtain ⟨i1, hi1, hy0, hy1, hyy⟩ := info_parts infoFld
  have HK := hidS hK
  have HT := hidS hT
  have HW := hidS hW
  have HR := hidS hR
  clear hK hT hW hR
  go_enter Try.func8, Try.ntmps8
  go_wp2
  go_loopw [5, 6, 7, 8, 9, 10, 11, 12, 13, 14, 15] (fun sv wv uv fv iv _ _ _ _ _ _ wr => ∃ (L : List Hl) (ua : Option Addr) (uc : Nat) (fa : Option Addr) (fc : Nat), Hid (FiL L) ∧ L.length ≤ kl ∧ L.length ≤ 8 ∧ iv = .int .i64 L.length ∧ sv = .string (mkB (filO L)) ∧ wv = .string (mkB (wantL L)) ∧ uv = .slice ua L.length uc ∧ fv = .slice fa L.length fc ∧
      Hid (wr.ownsRow w.heap.size 47 2 (.slice ua L.length uc) L.length (useC (posL 4 [] L))) ∧ Hid (wr.ownsRow w.heap.size 50 4 (.slice fa L.length fc) L.length (fdC L)) ∧ Hid (Below w.heap.size w wr)) (fun _ _ _ _ iv _ _ _ _ _ _ _ => 8 - (intOf iv).toNat)
  case atStart => exact ⟨[], none, 0, none, 0, ⟨fun i hi => absurd hi (by simp), fun h hh => absurd hh (by simp), by simp⟩, by simp, by simp, rfl, rfl, rfl, rfl, rfl, World.ownsRow_nil _ _ _ _, World.ownsRow_nil _ _ _ _, Below.refl _ _⟩
  case round =>
    obtain ⟨L, ua, uc, fa, fc, HL, hLk, hL8, rfl, rfl, rfl, rfl, rfl, HU, HF, HB⟩ := hrel
    by_cases hlt : L.length < kl ∧ L.length < 8
    · obtain ⟨hlk, hl8⟩ := hlt
      rcases HK.out with h0 | ⟨kb, ko, rfl, hkb, hKc⟩
      · omega
      obtain ⟨n, hn, kcell0⟩ := hKc _ hlk
      have kcell := (HB.out.cell (p := ⟨kb, ko + L.length, none⟩) hkb).trans kcell0
      have hbs := HB.out.size
      have hkb2 : kb < wr.heap.size := by omega
      have k1 := cv1
      have Hpk := hidS (fun w' => q5 w' n 7 hn (by decide) (by decide))
      clear kcell0 hKc
      by_cases htl : L.length < tl
      · rcases HT.out with h0 | ⟨tb, to, rfl, htb, hTc⟩
        · omega
        obtain ⟨T, hTs, tcell0⟩ := hTc _ htl
        have tcell := (HB.out.cell (p := ⟨tb, to + L.length, none⟩) htb).trans tcell0
        have htb2 : tb < wr.heap.size := by omega
        clear tcell0 hTc
        go_wp2_with fail
        refine (Hpk.out _).mono ?_
        rintro e w' ⟨⟨r, hr, rfl⟩, hw⟩
        obtain rfl := hw.symm
        have HU1 : Hid ((wr.alloc (.cells #[.int .u8 (97 + (L.length : Int))] 5)).ownsRow w.heap.size 47 2 (.slice ua L.length uc) L.length (useC (posL 4 [] L))) := HU.out.alloc _
        have HF1 : Hid ((wr.alloc (.cells #[.int .u8 (97 + (L.length : Int))] 5)).ownsRow w.heap.size 50 4 (.slice fa L.length fc) L.length (fdC L)) := HF.out.alloc _
        have HB1 : Hid (Below w.heap.size w (wr.alloc (.cells #[.int .u8 (97 + (L.length : Int))] 5))) := HB.out.alloc hbs _
        have hs1 : w.heap.size ≤ (wr.alloc (.cells #[.int .u8 (97 + (L.length : Int))] 5)).heap.size := HB1.out.size
        generalize wr.alloc (.cells #[.int .u8 (97 + (L.length : Int))] 5) = w1 at *
        rw [nam_str]
        clear k1 kcell Hpk hw HU HF HB hbs tcell
        go_wp2_with fail
        refine (qframe r _).mono ?_
        rintro e w' ⟨rfl, hw⟩
        obtain rfl := hw.symm
        have fk := fr_ok r
        have hla := fk.la
        have hlb := fk.lb
        have hxl := fk.lt
        have hFO := filO_len L (fun h hh => (HL.out.names h hh).2)
        have hWO := wantL_len L HL.out.t
        have eS := mkB_size (filO L)
        have eW := mkB_size (wantL L)
        have eA := mkB_size (frA r)
        have eB := mkB_size (frB r)
        have eN : (mkB (namO L.length)).size = 1 := mkB_size _
        have HP2 : Hid (posL 4 [] (L ++ [⟨namO L.length, r, T⟩]) = posL 4 [] L ++ [(4 + (filO L).length + (frA r).length, frX r)]) := posL_snoc ⟨namO L.length, r, T⟩ L [] 4
        have HO2 : Hid (mkB (filO (L ++ [⟨namO L.length, r, T⟩])) = mkB (filO L) ++ mkB (frA r) ++ ⟨#[123]⟩ ++ mkB (namO L.length) ++ ⟨#[125]⟩ ++ mkB (frB r)) := by
          show _ = _
          rw [filO_snoc]
          simp only [mkB_app, app_assoc]
          rfl
        have HW2 : Hid (mkB (wantL (L ++ [⟨namO L.length, r, T⟩])) = mkB (wantL L) ++ mkB (frA r) ++ escB (frX r) T ++ mkB (frB r)) := by
          show _ = _
          rw [wantL_snoc, mkB_app, mkB_app, mkB_app, mkB_escF]
          simp only [app_assoc]
        have HL2 := hidS (HL.out.snoc hl8 r T hTs)
        have Hes := hidS (fun w' => qescF (frX r) T w' fk.o' hTs)
        have hel : (escB (frX r) T).size ≤ 6 * T.size + 2 := escB_le _ _
        have HFD := hidS (fdC_snoc L ⟨namO L.length, r, T⟩)
        simp only at HFD
        generalize (filO L).length = fl at *
        generalize (wantL L).length = wl at *
        generalize mkB (filO L) = S at *
        generalize mkB (wantL L) = Wn at *
        generalize (frA r).length = al at *
        generalize (frB r).length = bl at *
        generalize mkB (frA r) = A at *
        generalize mkB (frB r) = Bh at *
        generalize frX r = X at *
        generalize escB (X : Int) T = E at *
        generalize mkB (namO L.length) = Nm at *
        clear fk
        go_wp2_with (at_builtin; refine wpList_append_lies _ rfl _ _ 35 rfl w.heap.size 47 i0 (.agg #[.int .i64 0, .int .i64 0]) 2 16 Try.underlying35 hi hz0 hz1 hzz rfl (by decide) _ _ _ rfl (HU1.out.alloc _) ⟨w1.heap.size, 0, none⟩ 1 1 [.int .i64 (4 + (fl : Int) + (al : Int)), .int .i64 X] rfl rfl (use_cellsF w1 _ _) (use_oneF _ _) (by decide) ?c3 ?c4 ?c5 _ rfl ?_)
        case c3 => unfold maxLen; omega
        case c4 => omega
        case c5 => simp; omega
        intro g2 cap2 w2 hown2 hg2 hat2 hlt2
        have hlow2 : ∀ k, k < w1.heap.size → some k ≠ (Value.slice ua L.length uc).ownBlock → w2.heap[k]? = w1.heap[k]? := fun k h1 h2 => (hg2.block k (by simp; omega) h2).trans (Below.heap_alloc _ _ _ h1)
        have HF2 : Hid (w2.ownsRow w.heap.size 50 4 (.slice fa L.length fc) L.length (fdC L)) := own_keep HF1.out (fun g hg => hlow2 g (HF1.out.lt g hg).2 (own_farF HF1.out HU1.out (by decide) g hg))
        have HB2 : Hid (Below w.heap.size w w2) := (HB1.out.alloc hs1 _).grown hg2 (by simp; omega) (fun j hj => (HU1.out.lt j hj).1)
        have HU2 : Hid (w2.ownsRow w.heap.size 47 2 (.slice (some ⟨g2, 0, none⟩) (L.length + 1) cap2) (L.length + 1) (useC (posL 4 [] (L ++ [⟨namO L.length, r, T⟩])))) := by
          show World.ownsRow _ _ _ _ _ _ _
          rw [HP2.out, useC_snoc]
          have e : ((4 + fl + al : Nat) : Int) = 4 + (fl : Int) + (al : Int) := by omega
          rw [e]
          exact hown2
        have hs2 : w.heap.size ≤ w2.heap.size := HB2.out.size
        clear hown2 hg2 hat2 hlow2 HU1 HF1 HB1 hs1 HP2
        go_wp2_with fail
        refine (q19 _ _ _).mono ?_
        rintro e w3 ⟨rfl, hb3⟩
        have HU3 := hidS (own_keep HU2.out (fun g hg => hb3.block g (HU2.out.lt g hg).2))
        have HF3 := hidS (own_keep HF2.out (fun g hg => hb3.block g (HF2.out.lt g hg).2))
        have HB3 : Hid (Below w.heap.size w w3) := HB2.out.trans (hb3.mono hs2)
        have hs3 : w.heap.size ≤ w3.heap.size := HB3.out.size
        clear hb3 HU2 HF2 HB2 hs2 hlt2
        go_wp2_with (at_builtin; refine wpList_append_lies _ rfl _ _ 31 rfl w.heap.size 50 i1 (.agg #[.string ⟨#[]⟩, .bool false, .string ⟨#[]⟩, .slice none 0 0]) 4 64 Try.underlying31 hi1 hy0 hy1 hyy rfl (by decide) _ _ _ rfl (HF3.out.alloc _) ⟨w3.heap.size, 0, none⟩ 1 1 [.string Nm, .bool false, .string T, .slice none 0 0] rfl rfl (fld_cellsF w3 _ _) (fld_oneF _ _) (by decide) ?c3 ?c4 ?c5 _ rfl ?_)
        case c3 => unfold maxLen; omega
        case c4 => omega
        case c5 => simp; omega
        intro g4 cap4 w4 hown4 hg4 hat4 hlt4
        have hlow4 : ∀ k, k < w3.heap.size → some k ≠ (Value.slice fa L.length fc).ownBlock → w4.heap[k]? = w3.heap[k]? := fun k h1 h2 => (hg4.block k (by simp; omega) h2).trans (Below.heap_alloc _ _ _ h1)
        have HU4 : Hid (w4.ownsRow w.heap.size 47 2 (.slice (some ⟨g2, 0, none⟩) (L.length + 1) cap2) (L.length + 1) (useC (posL 4 [] (L ++ [⟨namO L.length, r, T⟩])))) := own_keep HU3.out (fun g hg => hlow4 g (HU3.out.lt g hg).2 (own_farF HU3.out HF3.out (by decide) g hg))
        have HB4 : Hid (Below w.heap.size w w4) := (HB3.out.alloc hs3 _).grown hg4 (by simp; omega) (fun j hj => (HF3.out.lt j hj).1)
        have HF4 : Hid (w4.ownsRow w.heap.size 50 4 (.slice (some ⟨g4, 0, none⟩) (L.length + 1) cap4) (L.length + 1) (fdC (L ++ [⟨namO L.length, r, T⟩]))) := by
          show World.ownsRow _ _ _ _ _ _ _
          rw [HFD.out]
          exact hown4
        have hs4 : w.heap.size ≤ w4.heap.size := HB4.out.size
        clear hown4 hg4 hat4 hlow4 HU3 HF3 HB3 hs3 HFD
        go_wp2_with fail
        refine (Hes.out _).mono ?_
        rintro e w5 ⟨rfl, hb5⟩
        have HU5 := hidS (own_keep HU4.out (fun g hg => hb5.block g (HU4.out.lt g hg).2))
        have HF5 := hidS (own_keep HF4.out (fun g hg => hb5.block g (HF4.out.lt g hg).2))
        have HB5 : Hid (Below w.heap.size w w5) := HB4.out.trans (hb5.mono hs4)
        clear hb5 HU4 HF4 HB4 hs4 hlt4 Hes
        have eLn : (L ++ [(⟨namO L.length, r, T⟩ : Hl)]).length = L.length + 1 := by simp
        go_wp2
        exact ⟨⟨L ++ [(⟨namO L.length, r, T⟩ : Hl)], some ⟨g2, 0, none⟩, cap2, some ⟨g4, 0, none⟩, cap4, HL2.out, by rw [eLn]; omega, by rw [eLn]; omega, by rw [eLn]; go_num, by rw [HO2.out], by rw [HW2.out], by rw [eLn], by rw [eLn], by rw [eLn]; exact HU5.out, by rw [eLn]; exact HF5.out, HB5.out⟩, by simp [intOf]; omega⟩
      · have hTs : (⟨#[]⟩ : ByteArray).size ≤ 1048576 := by decide
        go_wp2_with fail
        refine (Hpk.out _).mono ?_
        rintro e w' ⟨⟨r, hr, rfl⟩, hw⟩
        obtain rfl := hw.symm
        have HU1 : Hid ((wr.alloc (.cells #[.int .u8 (97 + (L.length : Int))] 5)).ownsRow w.heap.size 47 2 (.slice ua L.length uc) L.length (useC (posL 4 [] L))) := HU.out.alloc _
        have HF1 : Hid ((wr.alloc (.cells #[.int .u8 (97 + (L.length : Int))] 5)).ownsRow w.heap.size 50 4 (.slice fa L.length fc) L.length (fdC L)) := HF.out.alloc _
        have HB1 : Hid (Below w.heap.size w (wr.alloc (.cells #[.int .u8 (97 + (L.length : Int))] 5))) := HB.out.alloc hbs _
        have hs1 : w.heap.size ≤ (wr.alloc (.cells #[.int .u8 (97 + (L.length : Int))] 5)).heap.size := HB1.out.size
        generalize wr.alloc (.cells #[.int .u8 (97 + (L.length : Int))] 5) = w1 at *
        rw [nam_str]
        clear k1 kcell Hpk hw HU HF HB hbs
        go_wp2_with fail
        refine (qframe r _).mono ?_
        rintro e w' ⟨rfl, hw⟩
        obtain rfl := hw.symm
        have fk := fr_ok r
        have hla := fk.la
        have hlb := fk.lb
        have hxl := fk.lt
        have hFO := filO_len L (fun h hh => (HL.out.names h hh).2)
        have hWO := wantL_len L HL.out.t
        have eS := mkB_size (filO L)
        have eW := mkB_size (wantL L)
        have eA := mkB_size (frA r)
        have eB := mkB_size (frB r)
        have eN : (mkB (namO L.length)).size = 1 := mkB_size _
        have HP2 : Hid (posL 4 [] (L ++ [⟨namO L.length, r, (⟨#[]⟩ : ByteArray)⟩]) = posL 4 [] L ++ [(4 + (filO L).length + (frA r).length, frX r)]) := posL_snoc ⟨namO L.length, r, (⟨#[]⟩ : ByteArray)⟩ L [] 4
        have HO2 : Hid (mkB (filO (L ++ [⟨namO L.length, r, (⟨#[]⟩ : ByteArray)⟩])) = mkB (filO L) ++ mkB (frA r) ++ ⟨#[123]⟩ ++ mkB (namO L.length) ++ ⟨#[125]⟩ ++ mkB (frB r)) := by
          show _ = _
          rw [filO_snoc]
          simp only [mkB_app, app_assoc]
          rfl
        have HW2 : Hid (mkB (wantL (L ++ [⟨namO L.length, r, (⟨#[]⟩ : ByteArray)⟩])) = mkB (wantL L) ++ mkB (frA r) ++ escB (frX r) (⟨#[]⟩ : ByteArray) ++ mkB (frB r)) := by
          show _ = _
          rw [wantL_snoc, mkB_app, mkB_app, mkB_app, mkB_escF]
          simp only [app_assoc]
        have HL2 := hidS (HL.out.snoc hl8 r (⟨#[]⟩ : ByteArray) hTs)
        have Hes := hidS (fun w' => qescF (frX r) (⟨#[]⟩ : ByteArray) w' fk.o' hTs)
        have hel : (escB (frX r) (⟨#[]⟩ : ByteArray)).size ≤ 6 * (⟨#[]⟩ : ByteArray).size + 2 := escB_le _ _
        have HFD := hidS (fdC_snoc L ⟨namO L.length, r, (⟨#[]⟩ : ByteArray)⟩)
        simp only at HFD
        generalize (filO L).length = fl at *
        generalize (wantL L).length = wl at *
        generalize mkB (filO L) = S at *
        generalize mkB (wantL L) = Wn at *
        generalize (frA r).length = al at *
        generalize (frB r).length = bl at *
        generalize mkB (frA r) = A at *
        generalize mkB (frB r) = Bh at *
        generalize frX r = X at *
        generalize escB (X : Int) (⟨#[]⟩ : ByteArray) = E at *
        generalize mkB (namO L.length) = Nm at *
        clear fk
        go_wp2_with (at_builtin; refine wpList_append_lies _ rfl _ _ 35 rfl w.heap.size 47 i0 (.agg #[.int .i64 0, .int .i64 0]) 2 16 Try.underlying35 hi hz0 hz1 hzz rfl (by decide) _ _ _ rfl (HU1.out.alloc _) ⟨w1.heap.size, 0, none⟩ 1 1 [.int .i64 (4 + (fl : Int) + (al : Int)), .int .i64 X] rfl rfl (use_cellsF w1 _ _) (use_oneF _ _) (by decide) ?c3 ?c4 ?c5 _ rfl ?_)
        case c3 => unfold maxLen; omega
        case c4 => omega
        case c5 => simp; omega
        intro g2 cap2 w2 hown2 hg2 hat2 hlt2
        have hlow2 : ∀ k, k < w1.heap.size → some k ≠ (Value.slice ua L.length uc).ownBlock → w2.heap[k]? = w1.heap[k]? := fun k h1 h2 => (hg2.block k (by simp; omega) h2).trans (Below.heap_alloc _ _ _ h1)
        have HF2 : Hid (w2.ownsRow w.heap.size 50 4 (.slice fa L.length fc) L.length (fdC L)) := own_keep HF1.out (fun g hg => hlow2 g (HF1.out.lt g hg).2 (own_farF HF1.out HU1.out (by decide) g hg))
        have HB2 : Hid (Below w.heap.size w w2) := (HB1.out.alloc hs1 _).grown hg2 (by simp; omega) (fun j hj => (HU1.out.lt j hj).1)
        have HU2 : Hid (w2.ownsRow w.heap.size 47 2 (.slice (some ⟨g2, 0, none⟩) (L.length + 1) cap2) (L.length + 1) (useC (posL 4 [] (L ++ [⟨namO L.length, r, (⟨#[]⟩ : ByteArray)⟩])))) := by
          show World.ownsRow _ _ _ _ _ _ _
          rw [HP2.out, useC_snoc]
          have e : ((4 + fl + al : Nat) : Int) = 4 + (fl : Int) + (al : Int) := by omega
          rw [e]
          exact hown2
        have hs2 : w.heap.size ≤ w2.heap.size := HB2.out.size
        clear hown2 hg2 hat2 hlow2 HU1 HF1 HB1 hs1 HP2
        go_wp2_with fail
        refine (q19 _ _ _).mono ?_
        rintro e w3 ⟨rfl, hb3⟩
        have HU3 := hidS (own_keep HU2.out (fun g hg => hb3.block g (HU2.out.lt g hg).2))
        have HF3 := hidS (own_keep HF2.out (fun g hg => hb3.block g (HF2.out.lt g hg).2))
        have HB3 : Hid (Below w.heap.size w w3) := HB2.out.trans (hb3.mono hs2)
        have hs3 : w.heap.size ≤ w3.heap.size := HB3.out.size
        clear hb3 HU2 HF2 HB2 hs2 hlt2
        go_wp2_with (at_builtin; refine wpList_append_lies _ rfl _ _ 31 rfl w.heap.size 50 i1 (.agg #[.string ⟨#[]⟩, .bool false, .string ⟨#[]⟩, .slice none 0 0]) 4 64 Try.underlying31 hi1 hy0 hy1 hyy rfl (by decide) _ _ _ rfl (HF3.out.alloc _) ⟨w3.heap.size, 0, none⟩ 1 1 [.string Nm, .bool false, .string (⟨#[]⟩ : ByteArray), .slice none 0 0] rfl rfl (fld_cellsF w3 _ _) (fld_oneF _ _) (by decide) ?c3 ?c4 ?c5 _ rfl ?_)
        case c3 => unfold maxLen; omega
        case c4 => omega
        case c5 => simp; omega
        intro g4 cap4 w4 hown4 hg4 hat4 hlt4
        have hlow4 : ∀ k, k < w3.heap.size → some k ≠ (Value.slice fa L.length fc).ownBlock → w4.heap[k]? = w3.heap[k]? := fun k h1 h2 => (hg4.block k (by simp; omega) h2).trans (Below.heap_alloc _ _ _ h1)
        have HU4 : Hid (w4.ownsRow w.heap.size 47 2 (.slice (some ⟨g2, 0, none⟩) (L.length + 1) cap2) (L.length + 1) (useC (posL 4 [] (L ++ [⟨namO L.length, r, (⟨#[]⟩ : ByteArray)⟩])))) := own_keep HU3.out (fun g hg => hlow4 g (HU3.out.lt g hg).2 (own_farF HU3.out HF3.out (by decide) g hg))
        have HB4 : Hid (Below w.heap.size w w4) := (HB3.out.alloc hs3 _).grown hg4 (by simp; omega) (fun j hj => (HF3.out.lt j hj).1)
        have HF4 : Hid (w4.ownsRow w.heap.size 50 4 (.slice (some ⟨g4, 0, none⟩) (L.length + 1) cap4) (L.length + 1) (fdC (L ++ [⟨namO L.length, r, (⟨#[]⟩ : ByteArray)⟩]))) := by
          show World.ownsRow _ _ _ _ _ _ _
          rw [HFD.out]
          exact hown4
        have hs4 : w.heap.size ≤ w4.heap.size := HB4.out.size
        clear hown4 hg4 hat4 hlow4 HU3 HF3 HB3 hs3 HFD
        go_wp2_with fail
        refine (Hes.out _).mono ?_
        rintro e w5 ⟨rfl, hb5⟩
        have HU5 := hidS (own_keep HU4.out (fun g hg => hb5.block g (HU4.out.lt g hg).2))
        have HF5 := hidS (own_keep HF4.out (fun g hg => hb5.block g (HF4.out.lt g hg).2))
        have HB5 : Hid (Below w.heap.size w w5) := HB4.out.trans (hb5.mono hs4)
        clear hb5 HU4 HF4 HB4 hs4 hlt4 Hes
        have eLn : (L ++ [(⟨namO L.length, r, (⟨#[]⟩ : ByteArray)⟩ : Hl)]).length = L.length + 1 := by simp
        go_wp2
        exact ⟨⟨L ++ [(⟨namO L.length, r, (⟨#[]⟩ : ByteArray)⟩ : Hl)], some ⟨g2, 0, none⟩, cap2, some ⟨g4, 0, none⟩, cap4, HL2.out, by rw [eLn]; omega, by rw [eLn]; omega, by rw [eLn]; go_num, by rw [HO2.out], by rw [HW2.out], by rw [eLn], by rw [eLn], by rw [eLn]; exact HU5.out, by rw [eLn]; exact HF5.out, HB5.out⟩, by simp [intOf]; omega⟩
    · have hL := HL.out
      have hFO := filO_len L (fun h hh => (hL.names h hh).2)
      have hWO := wantL_len L hL.t
      have eS := mkB_size (filO L)
      have eW := mkB_size (wantL L)
      have HRD := hidS (fi_reads L (fun h hh => (hL.names h hh).1) (fun h hh => (hL.names h hh).2) hL8)
      have Hpg := hidS (fun w' => q17 w' (mkB (filO L)) (by omega))
      rw [fi_lit] at Hpg
      have hSS : (mkB (tmOut [97] (fil [] L))).size ≤ maxLen := by obtain ⟨A, _, q, _⟩ := HRD.out; unfold maxLen; omega
      have HWk := hidS (HW.out (mkB (tmOut [97] (fil [] L))) (mkB [97]) wr hSS)
      have HG := hidS (wsp_ok (fi_walk L))
      have HRen := hidS (fun (way : Int) (o : ByteArray) (y : Int) (hw : way = 0 ∨ way = 1) (h : RenS (mkB (tmOut [97] (fil [] L))) (mkB [97]) way (fiDat L) o y) => page_law (m := 1) HRD.out (by rw [fi_fnd]; decide) (hw.imp id (fun e => ⟨e, HG.out⟩)) (by rw [fi_tno]; exact fi_page L hL.pair) rfl h)
      have HWL := hidS (fun x M (h : PWalk (mkB (tmOut [97] (fil [] L))) (mkB [97]) x M) => walk_law HRD.out (fi_walk L) h)
      have hpl := posL_len L [] 4
      have HPL : Hid (∀ (i : Nat) (hi : i < L.length), ∃ (h' : i < (posL 4 [] L).length), True) := fun i hi => ⟨by rw [hpl]; exact hi, trivial⟩
      have HWTS : Hid ((mkB (wantL L)).size = (wantL L).length) := eW
      generalize mkB (tmOut [97] (fil [] L)) = SS at *
      clear HG HRD hL
      by_cases hk2 : L.length < kl
      · have h8 : ¬ L.length < 8 := fun q => hlt ⟨hk2, q⟩
        clear hlt
        go_wp2_with (go_at_call 21; refine (Hpg.out _).mono ?_; rintro e w' ⟨rfl, hw⟩; obtain rfl := hw.symm)
        refine HWk.out.mono ?_
        rintro e w2 ⟨hb2, a2, c2, x2, L2, rfl, hown, hL2, hPW⟩
        obtain ⟨rfl, rfl⟩ := HWL.out _ _ hPW
        have HU2 := hidS (own_keep HU.out (fun g hg => hb2.block g (HU.out.lt g hg).2))
        have HF2 := hidS (own_keep HF.out (fun g hg => hb2.block g (HF.out.lt g hg).2))
        have HB2 : Hid (Below w.heap.size w w2) := HB.out.trans (hb2.mono HB.out.size)
        have HO2 : Hid (∀ (i : Nat), i < L.length → ∃ (g h : Nat) (p q : Int), a2 = some ⟨g, 0, none⟩ ∧ ua = some ⟨h, 0, none⟩ ∧ g < w2.heap.size ∧ h < w2.heap.size ∧ w2.cell? ⟨g, i * 2, none⟩ = some (.int .i64 p) ∧ w2.cell? ⟨g, i * 2 + 1, none⟩ = some (.int .i64 q) ∧ w2.cell? ⟨h, i * 2, none⟩ = some (.int .i64 p) ∧ w2.cell? ⟨h, i * 2 + 1, none⟩ = some (.int .i64 q)) := fun i hi => by
          have hi2 : i < (posL 4 [] L).length := by rw [hpl]; exact hi
          obtain ⟨g, e1, q1, q2⟩ := use_at hown i hi2
          have hU := HU2.out
          rw [← hpl] at hU
          obtain ⟨h, e2, q3, q4⟩ := use_at hU i hi2
          exact ⟨g, h, _, _, e1, e2, (hown.lt g (by rw [e1]; rfl)).2, (hU.lt h (by rw [e2]; rfl)).2, q1, q2, q3, q4⟩
        have hcc : L.length ≤ c2 ∧ c2 ≤ maxLen ∨ L.length = 0 := by
          rcases hown.2 with ⟨_, h0⟩ | ⟨_, cap, _, hv, _, _, hn2, hm2, _⟩
          · right; omega
          · simp at hv; left; omega
        clear hb2 hown hPW HWL HWk Hpg HU HF HB
        rw [hpl]
        clear hpl
        go_wp2_with fail
        go_loopw [18] (fun iv wx => ∃ j : Nat, j ≤ L.length ∧ iv = .int .i64 j ∧ Hid (Below w2.heap.size w2 wx)) (fun iv _ => L.length - (intOf iv).toNat)
        case atStart => exact ⟨0, Nat.zero_le _, rfl, Below.refl _ _⟩
        case round =>
          obtain ⟨j, hj, rfl, HBx⟩ := hrel
          by_cases hjl : j < L.length
          · obtain ⟨g, h, p, q, rfl, rfl, hg, hh, q1, q2, q3, q4⟩ := HO2.out j hjl
            have d1 := (HBx.out.cell (p := ⟨g, j * 2, none⟩) hg).trans q1
            have d2 := (HBx.out.cell (p := ⟨g, j * 2 + 1, none⟩) hg).trans q2
            have d3 := (HBx.out.cell (p := ⟨h, j * 2, none⟩) hh).trans q3
            have d4 := (HBx.out.cell (p := ⟨h, j * 2 + 1, none⟩) hh).trans q4
            have hxs := HBx.out.size
            clear q1 q2 q3 q4 HO2
            go_wp2
            go_quiet (fail)
            go_wp2
            go_roundw
            case rel => exact ⟨j + 1, by omega, by go_num, below_drewN HBx.out _⟩
            case measure => simp [intOf]; omega
          · clear HO2
            have hF := HF2.out
            have hFx := own_keep hF (fun g hg => HBx.out.block g (hF.lt g hg).2)
            have HFx := hidS hFx
            have hV : DatV wr wr.heap.size fa (fiDat L) := by
              rcases hFx.2 with ⟨_, h0⟩ | ⟨g, cap, cur, hv, hb, hg, hn2, hm2, hs2, ht2⟩
              · exact .inl (by rw [fiDat_len]; exact h0)
              · simp at hv
                refine .inr ⟨g, 0, hv.1, (hFx.lt g (by rw [hv.1]; rfl)).2, fd_at L 0 (fun j u hj => ?_)⟩
                have := hFx.cells (g := g) (by rw [hv.1]; rfl) j u hj
                have e : ∀ j, (⟨g, 0, none⟩ : Addr).add j = ⟨g, j, none⟩ := by intro j; unfold Addr.add; split <;> simp_all
                rw [e] at this
                simpa using this
            have HV := hidS hV
            have hfc : L.length ≤ fc ∧ fc ≤ maxLen := by
              rcases hFx.2 with ⟨h0, h1⟩ | ⟨g, cap, cur, hv, hb, hg, hn2, hm2, hs2, ht2⟩
              · simp at h0; omega
              · simp at hv; omega
            clear hF hFx hV
            go_wp2_with fail
            refine (q18 _ _ _ _).mono ?_
            rintro e w3 ⟨rfl, hb3⟩
            have hdl := fiDat_len L
            have hb := q21w HR.out w3 SS (mkB (wantL L)) fa (fiDat L) fc hSS (DatV.mono HV.out hb3.size (fun q hq => hb3.block q hq)) (fiDat_ok L) (fiDat_fits L (fun h hh => by have := HL.out.t h hh; unfold maxLen; omega)) (by rw [hdl]; exact hfc.1) hfc.2 (by rw [HWTS.out]; unfold maxLen; omega) (fun way o y hw h => by
              have t := HRen.out way o y hw h
              rw [HWTS.out]
              exact ⟨fun q => t.1 (by show L.length ≤ 500; omega) q, fun q => t.2.1 (by show L.length ≤ 500; omega) q⟩)
            rw [hdl] at hb
            have Hb := hidS hb
            have HB3 : Hid (Below w.heap.size w w3) := HB2.out.trans ((HBx.out.trans (hb3.mono HBx.out.size)).mono HB2.out.size)
            clear hb hb3 hdl HRen
            go_wp2_with fail
            refine Hb.out.mono ?_
            rintro e w4 ⟨rfl, hb4⟩
            have HB4 : Hid (Below w.heap.size w w4) := HB3.out.trans (hb4.mono HB3.out.size)
            clear hb4
            go_wp2
            go_ret
            exact ⟨rfl, HB4.out⟩
      · clear hlt
        go_wp2_with (go_at_call 21; refine (Hpg.out _).mono ?_; rintro e w' ⟨rfl, hw⟩; obtain rfl := hw.symm)
        refine HWk.out.mono ?_
        rintro e w2 ⟨hb2, a2, c2, x2, L2, rfl, hown, hL2, hPW⟩
        obtain ⟨rfl, rfl⟩ := HWL.out _ _ hPW
        have HU2 := hidS (own_keep HU.out (fun g hg => hb2.block g (HU.out.lt g hg).2))
        have HF2 := hidS (own_keep HF.out (fun g hg => hb2.block g (HF.out.lt g hg).2))
        have HB2 : Hid (Below w.heap.size w w2) := HB.out.trans (hb2.mono HB.out.size)
        have HO2 : Hid (∀ (i : Nat), i < L.length → ∃ (g h : Nat) (p q : Int), a2 = some ⟨g, 0, none⟩ ∧ ua = some ⟨h, 0, none⟩ ∧ g < w2.heap.size ∧ h < w2.heap.size ∧ w2.cell? ⟨g, i * 2, none⟩ = some (.int .i64 p) ∧ w2.cell? ⟨g, i * 2 + 1, none⟩ = some (.int .i64 q) ∧ w2.cell? ⟨h, i * 2, none⟩ = some (.int .i64 p) ∧ w2.cell? ⟨h, i * 2 + 1, none⟩ = some (.int .i64 q)) := fun i hi => by
          have hi2 : i < (posL 4 [] L).length := by rw [hpl]; exact hi
          obtain ⟨g, e1, q1, q2⟩ := use_at hown i hi2
          have hU := HU2.out
          rw [← hpl] at hU
          obtain ⟨h, e2, q3, q4⟩ := use_at hU i hi2
          exact ⟨g, h, _, _, e1, e2, (hown.lt g (by rw [e1]; rfl)).2, (hU.lt h (by rw [e2]; rfl)).2, q1, q2, q3, q4⟩
        have hcc : L.length ≤ c2 ∧ c2 ≤ maxLen ∨ L.length = 0 := by
          rcases hown.2 with ⟨_, h0⟩ | ⟨_, cap, _, hv, _, _, hn2, hm2, _⟩
          · right; omega
          · simp at hv; left; omega
        clear hb2 hown hPW HWL HWk Hpg HU HF HB
        rw [hpl]
        clear hpl
        go_wp2_with fail
        go_loopw [18] (fun iv wx => ∃ j : Nat, j ≤ L.length ∧ iv = .int .i64 j ∧ Hid (Below w2.heap.size w2 wx)) (fun iv _ => L.length - (intOf iv).toNat)
        case atStart => exact ⟨0, Nat.zero_le _, rfl, Below.refl _ _⟩
        case round =>
          obtain ⟨j, hj, rfl, HBx⟩ := hrel
          by_cases hjl : j < L.length
          · obtain ⟨g, h, p, q, rfl, rfl, hg, hh, q1, q2, q3, q4⟩ := HO2.out j hjl
            have d1 := (HBx.out.cell (p := ⟨g, j * 2, none⟩) hg).trans q1
            have d2 := (HBx.out.cell (p := ⟨g, j * 2 + 1, none⟩) hg).trans q2
            have d3 := (HBx.out.cell (p := ⟨h, j * 2, none⟩) hh).trans q3
            have d4 := (HBx.out.cell (p := ⟨h, j * 2 + 1, none⟩) hh).trans q4
            have hxs := HBx.out.size
            clear q1 q2 q3 q4 HO2
            go_wp2
            go_quiet (fail)
            go_wp2
            go_roundw
            case rel => exact ⟨j + 1, by omega, by go_num, below_drewN HBx.out _⟩
            case measure => simp [intOf]; omega
          · clear HO2
            have hF := HF2.out
            have hFx := own_keep hF (fun g hg => HBx.out.block g (hF.lt g hg).2)
            have HFx := hidS hFx
            have hV : DatV wr wr.heap.size fa (fiDat L) := by
              rcases hFx.2 with ⟨_, h0⟩ | ⟨g, cap, cur, hv, hb, hg, hn2, hm2, hs2, ht2⟩
              · exact .inl (by rw [fiDat_len]; exact h0)
              · simp at hv
                refine .inr ⟨g, 0, hv.1, (hFx.lt g (by rw [hv.1]; rfl)).2, fd_at L 0 (fun j u hj => ?_)⟩
                have := hFx.cells (g := g) (by rw [hv.1]; rfl) j u hj
                have e : ∀ j, (⟨g, 0, none⟩ : Addr).add j = ⟨g, j, none⟩ := by intro j; unfold Addr.add; split <;> simp_all
                rw [e] at this
                simpa using this
            have HV := hidS hV
            have hfc : L.length ≤ fc ∧ fc ≤ maxLen := by
              rcases hFx.2 with ⟨h0, h1⟩ | ⟨g, cap, cur, hv, hb, hg, hn2, hm2, hs2, ht2⟩
              · simp at h0; omega
              · simp at hv; omega
            clear hF hFx hV
            go_wp2_with fail
            refine (q18 _ _ _ _).mono ?_
            rintro e w3 ⟨rfl, hb3⟩
            have hdl := fiDat_len L
            have hb := q21w HR.out w3 SS (mkB (wantL L)) fa (fiDat L) fc hSS (DatV.mono HV.out hb3.size (fun q hq => hb3.block q hq)) (fiDat_ok L) (fiDat_fits L (fun h hh => by have := HL.out.t h hh; unfold maxLen; omega)) (by rw [hdl]; exact hfc.1) hfc.2 (by rw [HWTS.out]; unfold maxLen; omega) (fun way o y hw h => by
              have t := HRen.out way o y hw h
              rw [HWTS.out]
              exact ⟨fun q => t.1 (by show L.length ≤ 500; omega) q, fun q => t.2.1 (by show L.length ≤ 500; omega) q⟩)
            rw [hdl] at hb
            have Hb := hidS hb
            have HB3 : Hid (Below w.heap.size w w3) := HB2.out.trans ((HBx.out.trans (hb3.mono HBx.out.size)).mono HB2.out.size)
            clear hb hb3 hdl HRen
            go_wp2_with fail
            refine Hb.out.mono ?_
            rintro e w4 ⟨rfl, hb4⟩
            have HB4 : Hid (Below w.heap.size w w4) := HB3.out.trans (hb4.mono HB3.out.size)
            clear hb4
            go_wp2
            go_ret
            exact ⟨rfl, HB4.out⟩
end Go.Proofs.Ytffkejkgkgfnhaa
