import Derived.Test.YtffkejkgkgfnhabGreatG18
import Derived.Test.YtffkejkgkgfnhabGreatG14
namespace Go.Proofs.YtffkejkgkgfnhabGreat
open Go.RowKit
set_option linter.unusedVariables false
/-- how a page ends -/
def endS (tr : Bool) (st : Pst) (out : ByteArray) (x : Int) : Prop :=
  (st.err ≠ 0 ∧ x = st.err ∧ out = ⟨#[]⟩) ∨ (st.err = 0 ∧ tr = true ∧ ctxO st.out ≠ 0 ∧ x = 11 ∧ out = ⟨#[]⟩) ∨ (st.err = 0 ∧ (tr = true → ctxO st.out = 0) ∧ x = 0 ∧ out = st.out)
def pst0 : Pst := ⟨⟨#[]⟩, 0, 0⟩
def pagR (ts : List Tm) (nm : ByteArray) (tr : Bool) (d : Dat) : Pst := pagF ts tr 500 (bod ts (tno ts nm)) [d] pst0
/-- what Render answers for templates -/
def RSpec (ts : List Tm) (nm : ByteArray) (way : Int) (d : Dat) (out : ByteArray) (x : Int) : Prop :=
  (way ≠ 0 ∧ way ≠ 1 ∧ x = 5 ∧ out = ⟨#[]⟩) ∨ ((way = 0 ∨ way = 1) ∧ fndF nm ts 0 < 0 ∧ x = 4 ∧ out = ⟨#[]⟩) ∨
  (0 ≤ fndF nm ts 0 ∧ way = 1 ∧ TBad ts (tno ts nm) ∧ x = 6 ∧ out = ⟨#[]⟩) ∨ (0 ≤ fndF nm ts 0 ∧ (way = 0 ∨ (way = 1 ∧ ¬ TBad ts (tno ts nm))) ∧ endS (decide (way = 0)) (pagR ts nm (decide (way = 0)) d) out x)
def RenS (s nm : ByteArray) (way : Int) (d : Dat) (out : ByteArray) (x : Int) : Prop :=
  (∃ y, ChkS s x y ∧ x ≠ 0 ∧ out = ⟨#[]⟩) ∨ (∃ ts A, TFlat s ts A s.size ∧ s.size ≤ 400 ∧ Ends s init (.fin A) ∧ twA [] A = -1 ∧ unA (seenB (names A)) A < 0 ∧ RSpec ts nm way d out x)
theorem endS_unique {tr : Bool} {st : Pst} {o o' : ByteArray} {x x' : Int} (h : endS tr st o x) (k : endS tr st o' x') : o = o' ∧ x = x' := by
  rcases h with ⟨h1, rfl, rfl⟩ | ⟨h1, h2, h3, rfl, rfl⟩ | ⟨h1, h2, rfl, rfl⟩ <;> rcases k with ⟨k1, rfl, rfl⟩ | ⟨k1, k2, k3, rfl, rfl⟩ | ⟨k1, k2, rfl, rfl⟩
  · exact ⟨rfl, rfl⟩
  · exact absurd k1 h1
  · exact absurd k1 h1
  · exact absurd h1 k1
  · exact ⟨rfl, rfl⟩
  · exact absurd (k2 h2) h3
  · exact absurd h1 k1
  · exact absurd (h2 k2) k3
  · exact ⟨rfl, rfl⟩
theorem rspec_unique {ts : List Tm} {nm : ByteArray} {way : Int} {d : Dat} {o o' : ByteArray} {x x' : Int} (h : RSpec ts nm way d o x) (k : RSpec ts nm way d o' x') : o = o' ∧ x = x' := by
  rcases h with ⟨h1, h2, rfl, rfl⟩ | ⟨h1, h2, rfl, rfl⟩ | ⟨h1, h2, h3, rfl, rfl⟩ | ⟨h1, h2, h3⟩ <;> rcases k with ⟨k1, k2, rfl, rfl⟩ | ⟨k1, k2, rfl, rfl⟩ | ⟨k1, k2, k3, rfl, rfl⟩ | ⟨k1, k2, k3⟩
  all_goals first
    | exact ⟨rfl, rfl⟩
    | exact endS_unique h3 k3
    | omega
    | (exfalso; rcases k2 with q | ⟨_, q⟩ <;> first | exact q h3 | omega)
    | (exfalso; rcases h2 with q | ⟨_, q⟩ <;> first | exact q k3 | omega)
theorem renS_unique {s nm : ByteArray} {way : Int} {d : Dat} {o o' : ByteArray} {x x' : Int} (h : RenS s nm way d o x) (k : RenS s nm way d o' x') : o = o' ∧ x = x' := by
  rcases h with ⟨z, h1, h2, h3⟩ | ⟨ts, A, h0, h1, h2, h3, h4, h5⟩ <;> rcases k with ⟨z', k1, k2, k3⟩ | ⟨ts', A', k0, k1, k2, k3, k4, k5⟩
  · exact ⟨by rw [h3, k3], (chkS_unique h1 k1).1⟩
  · exact absurd (chkS_unique h1 (.inr ⟨k1, .inr ⟨A', k2, .inr (.inr ⟨k3, k4, rfl, rfl⟩)⟩⟩)).1 h2
  · exact absurd (chkS_unique k1 (.inr ⟨h1, .inr ⟨A, h2, .inr (.inr ⟨h3, h4, rfl, rfl⟩)⟩⟩)).1 k2
  · obtain ⟨rfl, rfl⟩ := h0.one_way k0
    exact rspec_unique h5 k5
theorem pg_new (w : World) (a : Option Addr) (c : Nat) (ts : List Tm) (tr : Bool) : PgOK (w.alloc (.cells #[.slice a ts.length c, .bool tr, .slice none 0 0, .string ⟨#[]⟩, .int .i64 0, .int .i64 0] 92)) ⟨w.heap.size, w.heap.size, a, c, ts, tr⟩ none 0 [] pst0 := by
  refine ⟨by simp, by simp, by simp, by simp [pst0], by simp [pst0], by simp [pst0], by simp, by simp, by simp, by simp, ⟨[], World.ownsRow_nil _ _ _ _, rfl⟩, by simp, Nat.le_refl _, by simp [pst0, Fit, ByteArray.size]⟩
def RenPost (s nm : ByteArray) (way : Int) (d : Dat) (e : Ending) : Prop := ∃ out x, e = .returned (.tuple #[.string out, .int .i64 x]) ∧ RenS s nm way d out x
theorem ren_err {s nm : ByteArray} {way : Int} {d : Dat} {x : Int} (h : ∃ y, ChkS s x y ∧ x ≠ 0) : RenPost s nm way d (.returned (.tuple #[.string ⟨#[]⟩, .int .i64 x])) := by
  obtain ⟨y, h1, h2⟩ := h
  exact ⟨_, x, rfl, .inl ⟨y, h1, h2, rfl⟩⟩
set_option maxRecDepth 100000 in
set_option maxHeartbeats 4000000 in
theorem r30 (s nm : ByteArray) (way : Int) (w : World) (da : Option Addr) (d : Dat) (dc : Nat) (hm : s.size ≤ maxLen) (hV : DatV w w.heap.size da d) (hok : d.ok false) (hbk : d.bulk ≤ 1048576) (hlc : d.len ≤ dc) (hdc : dc ≤ maxLen) :
    Calls Tryz.prog 27 #[.int .i64 way, .string s, .string nm, .agg #[.slice da d.len dc]] w fun e w' => Below w.heap.size w w' ∧ RenPost s nm way d e := by
  obtain ⟨i0, hi, hz0, hz1x, hzz⟩ := info_parts infoRow
  have HV := hidS hV
  have HO := hidS hok
  have HBk := hidS hbk
  clear hV hok hbk
  by_cases hs : s.size ≤ 400
  · have Hc := hidS (fun o => c31 s (w.alloc o) hs)
    generalize hdl : d.len = dl at *
    have HDL := hidS hdl
    clear hdl
    go_enter Tryz.func27, Tryz.ntmps27
    go_wp2_with fail
    refine (Hc.out _).mono ?_
    clear Hc
    rintro e w1 ⟨hb, hor⟩
    have dcell : w1.cell? ⟨w.heap.size, 0, none⟩ = some (.slice da dl dc) := (hb.cell (p := ⟨w.heap.size, 0, none⟩) (by show w.heap.size < _; simp)).trans (by simp)
    have HB0 : Hid (Below w.heap.size w w1) := ((Below.refl _ _).alloc (Nat.le_refl _) _).trans (hb.mono (by simp))
    have hz1 : w.heap.size < w1.heap.size := by have := hb.size; simp at this; omega
    have HB1 := hidS hb
    clear hb
    rcases hor with ⟨er, rfl, hE⟩ | ⟨a, c, ts, A, hT, hE, hl6, hsl, hO⟩
    · have HE : Hid (ChkS s 2 er) := .inr ⟨hs, .inl ⟨er, hE, rfl, rfl⟩⟩
      clear hE
      go_wp2
      go_ret2
      exact ⟨HB0.out, ren_err ⟨er, HE.out, by decide⟩⟩
    · obtain ⟨v, x, y, hev, hC⟩ := chk_of_read s ts A a c e hT hO
      have HE : Hid (ChkS s x y) := .inr ⟨hs, .inr ⟨A, hE, hC⟩⟩
      have e1 := hT.twice
      have e2 := hT.un ts
      have e3 : hasF ts = seenB (names A) := funext hT.has
      rw [e3] at e2
      rcases hO with ⟨k1, k2⟩ | ⟨k1, k2, k3⟩ | ⟨k1, k2, k3⟩
      · rw [k2] at hev
        cases hev
        subst k2
        generalize twF ts ts 0 = TT at *
        clear hE hT hC hsl e1 e2 e3
        go_wp2
        go_ret2
        exact ⟨HB0.out, ren_err ⟨_, HE.out, by decide⟩⟩
      · rw [k3] at hev
        cases hev
        subst k3
        generalize unF ts ts = TT at *
        clear hE hT hC hsl e1 e2 e3
        go_wp2
        go_ret2
        exact ⟨HB0.out, ren_err ⟨_, HE.out, by decide⟩⟩
      · subst k3
        have HWF : Hid (WfT ts) := hT.wf hs k2
        have HALL : Hid (∀ out x, RSpec ts nm way d out x → RenPost s nm way d (.returned (.tuple #[.string out, .int .i64 x]))) := fun out x h => ⟨out, x, rfl, .inr ⟨ts, A, hT, hs, hE, by rw [← e1]; exact k1, by rw [← e2]; exact k2, h⟩⟩
        have HTT := hidS hT
        have HCK : Hid (ChkS s 0 0) := .inr ⟨hs, .inr ⟨A, hE, .inr (.inr ⟨by rw [← e1]; exact k1, by rw [← e2]; exact k2, rfl, rfl⟩)⟩⟩
        have Hf := hidS (c60 w1 _ a c ts nm hl6 (tmAt hsl))
        have HSL := hidS hsl
        have hfr := fndF_range nm ts 0
        clear hev hC HE e1 e2 e3 hE hT k1 k2 hsl
        by_cases hway : way = 0 ∨ way = 1
        · by_cases hneg : fndF nm ts 0 < 0
          · have HS1 := hidS (HALL.out _ _ (.inr (.inl ⟨hway, hneg, rfl, rfl⟩)))
            rcases hway with rfl | rfl
            · go_wp2_with fail
              refine Hf.out.mono ?_
              rintro e w2 ⟨rfl, hw⟩
              obtain rfl := hw.symm
              clear Hf
              generalize fndF nm ts 0 = FF at *
              go_wp2
              go_ret2
              exact ⟨HB0.out, HS1.out⟩
            · go_wp2_with fail
              refine Hf.out.mono ?_
              rintro e w2 ⟨rfl, hw⟩
              obtain rfl := hw.symm
              clear Hf
              generalize fndF nm ts 0 = FF at *
              go_wp2
              go_ret2
              exact ⟨HB0.out, HS1.out⟩
          · have ht : fndF nm ts 0 = ((tno ts nm : Nat) : Int) := by unfold tno; omega
            have HPos := hidS (show 0 ≤ fndF nm ts 0 by omega)
            have htl : tno ts nm < ts.length := by omega
            rcases hway with rfl | rfl
            · go_wp2_with fail
              refine Hf.out.mono ?_
              rintro e w2 ⟨rfl, hw⟩
              obtain rfl := hw.symm
              rw [ht]
              clear Hf ht hfr hneg
              go_wp2_with fail
              have hPage : PgOK (w1.alloc (.cells #[.slice a ts.length c, .bool true, .slice none 0 0, .string ⟨#[]⟩, .int .i64 0, .int .i64 0] 92)) ⟨w1.heap.size, w1.heap.size, a, c, ts, true⟩ none 0 [] pst0 := pg_new w1 a c ts true
              have dcell2 : (w1.alloc (.cells #[.slice a ts.length c, .bool true, .slice none 0 0, .string ⟨#[]⟩, .int .i64 0, .int .i64 0] 92)).cell? ⟨w.heap.size, 0, none⟩ = some (.slice da dl dc) := (World.cell?_alloc_lt _ _ _ hz1).trans dcell
              have HBA : Hid (Below w.heap.size w (w1.alloc (.cells #[.slice a ts.length c, .bool true, .slice none 0 0, .string ⟨#[]⟩, .int .i64 0, .int .i64 0] 92))) := HB0.out.alloc HB0.out.size _
              have HLo : Hid (∀ k, k < w1.heap.size → (w1.alloc (.cells #[.slice a ts.length c, .bool true, .slice none 0 0, .string ⟨#[]⟩, .int .i64 0, .int .i64 0] 92)).heap[k]? = w1.heap[k]?) := fun k hk => Below.heap_alloc _ _ _ hk
              have hzA : w.heap.size < (w1.alloc (.cells #[.slice a ts.length c, .bool true, .slice none 0 0, .string ⟨#[]⟩, .int .i64 0, .int .i64 0] 92)).heap.size := by simp; omega
              generalize hwA : w1.alloc (.cells #[.slice a ts.length c, .bool true, .slice none 0 0, .string ⟨#[]⟩, .int .i64 0, .int .i64 0] 92) = wa at *
              have c2 : wa.cell? ⟨w1.heap.size, 2, none⟩ = some (.slice none 0 0) := hPage.c2
              have f2 : wa.frozen? ⟨w1.heap.size, 2, none⟩ = false := hPage.f2
              have hpl : w1.heap.size < wa.heap.size := hPage.lt
              have o1 : wa.ownsRow (w1.heap.size + 1) 31 1 (.slice none 0 0) 0 [] := World.ownsRow_nil _ _ _ _
              have HPG := hidS hPage
              have hnn : ∀ k : Nat, some k ≠ (Value.slice none 0 0).ownBlock := fun k e => by cases e
              clear hwA hPage
              go_region_law (refine step_append_lies _ rfl _ _ 86 rfl (w1.heap.size + 1) 31 i0 (.agg #[.slice none 0 0]) 1 24 Tryz.underlying86 hi hz0 hz1x hzz rfl (by decide) _ _ _ rfl (by first | exact own_keep (o1.alloc _) (fun _ _ => rfl) | exact own_keep o1 (fun _ _ => rfl)) ⟨wa.heap.size, 0, none⟩ 1 1 [.slice da dl dc] rfl rfl (by exact row_cells wa _ _ _) (row_one _ _ _) (by decide) (by unfold maxLen; omega) (by omega) (by simp; omega) _ rfl ?_; intro g cap w3 hown3 hg3 hat3 hlt3; have hbk : w3.heap[w1.heap.size]? = wa.heap[w1.heap.size]? := (hg3.block _ (by simp; omega) (hnn _)).trans (Below.heap_alloc _ _ _ hpl); have q1 : w3.cell? ⟨w1.heap.size, 2, none⟩ = some (.slice none 0 0) := (World.cell?_of_block hbk).trans c2; have p1 : w3.frozen? ⟨w1.heap.size, 2, none⟩ = false := (World.frozen?_of_block hbk).trans f2)
              all_goals
                have hgz : wa.heap.size ≤ g := by
                  rcases hat3 with h1 | h1
                  · exact absurd h1.symm (hnn g)
                  · simp at h1; omega
                have hown4 : w3.ownsRow (w1.heap.size + 1) 31 1 (.slice (some ⟨g, 0, none⟩) (([] : List Dat).length + 1) cap) (([] : List Dat).length + 1) ([] ++ [.slice da d.len dc]) := by rw [HDL.out]; exact hown3
                have hsz3 : wa.heap.size ≤ w3.heap.size := by have := hg3.size; simp at this; omega
                have hVa : DatV wa w1.heap.size da d := HV.out.mono (by omega) (fun k hk => HBA.out.block k hk)
                have hpp := pg_push (w := wa) (w1 := w3) (f := d) HPG.out rfl hg3.os hg3.tape hg3.output hsz3 (fun j h1 h2 => (hg3.block j (by simp; omega) (hnn _)).trans (Below.heap_alloc _ _ _ h1)) hown4 (.inr hgz) hVa HO.out HBk.out (by rw [HDL.out]; exact hlc) hdc
                obtain ⟨hP4, hC4⟩ := hpp
                clear hown3 hown4 hg3 hat3 hbk q1 p1 o1 c2 f2
                have HB4 : Hid (Below w.heap.size w (w3.setCell ⟨w1.heap.size, 2, none⟩ (.slice (some ⟨g, 0, none⟩) 1 cap))) := HBA.out.trans ⟨hC4.os, hC4.tape, hC4.output, hC4.size, fun k hk => hC4.block k (by omega) (by show k ≠ w1.heap.size; omega) (fun e => by cases e)⟩
                have hlow : ∀ k, k < w1.heap.size → (w3.setCell ⟨w1.heap.size, 2, none⟩ (.slice (some ⟨g, 0, none⟩) 1 cap)).heap[k]? = w1.heap[k]? := fun k hk => (hC4.block k (by omega) (by show k ≠ w1.heap.size; omega) (fun e => by cases e)).trans (HLo.out k hk)
                have hP5 : PgOK (w3.setCell ⟨w1.heap.size, 2, none⟩ (.slice (some ⟨g, 0, none⟩) 1 cap)) ⟨w1.heap.size, w1.heap.size, a, c, ts, true⟩ (some ⟨g, 0, none⟩) cap [d] pst0 := hP4
                clear hP4 hC4 hVa hsz3
                generalize w3.setCell ⟨w1.heap.size, 2, none⟩ (.slice (some ⟨g, 0, none⟩) 1 cap) = w4 at *
                have hTE : TmE w4 ⟨w1.heap.size, w1.heap.size, a, c, ts, true⟩ := ⟨SlcX.mono HSL.out (fun k hk => hlow k hk.2) (fun k hk => hk.2) (fun xs => RowT.mono (fun k hk => hlow k hk.2) (fun k hk => hk.2) ts xs), hl6, HWF.out⟩
                rcases tmAt hTE.tm with h0 | ⟨g2, hla, hall⟩
                · exact absurd htl (by show ¬ _ < _; have : ts.length = 0 := h0; omega)
                obtain ⟨_, _, ba, bn, bc, ct, hSb⟩ := hall (tno ts nm) htl
                have hbn := slc_len hSb
                subst hbn
                have ebd := bod_at (tno ts nm) htl
                have hwf := HWF.out (tno ts nm) htl
                simp only at ct hSb hla
                rw [← ebd] at ct hSb hwf
                subst hla
                have hcall := bod_all 500 w4 _ _ _ [d] pst0 ba bc (bod ts (tno ts nm)) (by simp) (by simp [pst0]) hTE hwf.1 hwf.2 hSb hP5
                have hPA : pagF ts true 500 (bod ts (tno ts nm)) [d] pst0 = pagR ts nm true d := rfl
                change Calls Tryz.prog 49 #[.pointer (some ⟨w1.heap.size, 0, none⟩), .slice ba (bod ts (tno ts nm)).len bc] w4 (fun e w' => e = .returned (.tuple #[]) ∧ ∃ ra' rc', PgOK w' ⟨w1.heap.size, w1.heap.size, some ⟨g2, 0, none⟩, c, ts, true⟩ ra' rc' [d] (pagR ts nm true d) ∧ ChP w1.heap.size (.slice (some ⟨g, 0, none⟩) [d].length cap) (.slice ra' [d].length rc') w4 w') at hcall
                have Hcall := hidS hcall
                have hg4 : w1.heap.size < g := by have := (hP5.own_lt g rfl).1; exact this
                have hz4 := hP5.lt
                simp only at hz4
                have hti : (tno ts nm : Int) < (ts.length : Int) := by omega
                clear hcall hTE hall hSb hwf ebd hP5 hPA hlow
                generalize (bod ts (tno ts nm)).len = bl at *
                go_wp2_with fail
                refine Hcall.out.mono ?_
                rintro e w5 ⟨rfl, ra5, rc5, hP5, hC5⟩
                have HB5 : Hid (Below w.heap.size w w5) := HB4.out.trans ⟨hC5.os, hC5.tape, hC5.output, hC5.size, fun k hk => hC5.block k (by omega) (by omega) (fun e => by simp [Value.ownBlock] at e; omega)⟩
                have c1 := hP5.c1
                have c3 := hP5.c3
                have c5 := hP5.c5
                have hfit := hP5.fit.1
                simp only at c1 c3 c5
                have HAL : Hid (∀ out x, endS true (pagR ts nm true d) out x → RenPost s nm 0 d (.returned (.tuple #[.string out, .int .i64 x]))) := fun out x h => HALL.out out x (.inr (.inr (.inr ⟨HPos.out, .inl rfl, h⟩)))
                clear hP5 hC5 Hcall ct
                generalize pagR ts nm true d = S at *
                by_cases herr : S.err = 0
                · have HSc := hidS (fun w' => c22 0 S.out w' (by unfold maxLen; omega))
                  change Hid (∀ w', Calls Tryz.prog 10 _ w' fun e w'' => e = .returned (.int .i64 (ctxO S.out)) ∧ w'' = w') at HSc
                  rw [herr] at c5
                  by_cases hx : ctxO S.out = 0
                  · have HR := hidS (HAL.out _ _ (.inr (.inr ⟨herr, fun _ => hx, rfl, rfl⟩)))
                    rw [hx] at HSc
                    go_wp2_with (go_at_call 10; refine (HSc.out _).mono ?_; rintro e w' ⟨rfl, hw⟩; obtain rfl := hw.symm)
                    go_ret2
                    exact ⟨HB5.out, HR.out⟩
                  · have HR := hidS (HAL.out _ _ (.inr (.inl ⟨herr, rfl, hx, rfl, rfl⟩)))
                    have hx2 : (ctxO S.out != 0) = true := by simpa using hx
                    go_wp2_with (go_at_call 10; refine (HSc.out _).mono ?_; rintro e w' ⟨rfl, hw⟩; obtain rfl := hw.symm)
                    go_ret2
                    exact ⟨HB5.out, HR.out⟩
                · have HR := hidS (HAL.out _ _ (.inl ⟨herr, rfl, rfl⟩))
                  have herr' : (S.err == 0) = false := by simpa using herr
                  have herr2 : (S.err != 0) = true := by simpa using herr
                  go_wp2
                  go_quiet (fail)
                  go_wp2
                  go_ret2
                  exact ⟨below_drewN HB5.out _, HR.out⟩
            · have Hwk := hidS (w26 s nm w1 hm)
              go_wp2_with (go_at_call 32; refine Hf.out.mono ?_; rintro e w2 ⟨rfl, hw⟩; obtain rfl := hw.symm; rw [ht]; clear Hf ht hfr hneg)
              refine Hwk.out.mono ?_
              clear Hwk
              rintro e w2 ⟨hb2, la, lc, x, L, rfl, hown, _, hor⟩
              have HBW : Hid (Below w.heap.size w w2) := HB0.out.trans (hb2.mono (by omega))
              have hz2 : w.heap.size < w2.heap.size := by have := hb2.size; omega
              have dcellw : w2.cell? ⟨w.heap.size, 0, none⟩ = some (.slice da dl dc) := (hb2.cell (p := ⟨w.heap.size, 0, none⟩) hz1).trans dcell
              have HSL2 := hidS (SlcX.mono (A' := rng (w.alloc (.cells #[.slice da dl dc] 31)).heap.size w2.heap.size) HSL.out (fun k hk => hb2.block k hk.2) (rng_mono (Nat.le_refl _) hb2.size) (fun xs => RowT.mono (fun k hk => hb2.block k hk.2) (rng_mono (Nat.le_refl _) hb2.size) ts xs))
              have hcase : (x = 6 ∧ TBad ts (tno ts nm)) ∨ (x = 0 ∧ ¬ TBad ts (tno ts nm)) := by
                rcases hor with ⟨z, h1, h2, _⟩ | ⟨ts', A', k0, _, _, _, _, k5⟩
                · exact absurd (chkS_unique h1 HCK.out).1 h2
                · obtain ⟨rfl, rfl⟩ := HTT.out.one_way k0
                  rcases k5 with ⟨q1, _⟩ | ⟨_, ⟨q1, q2, _⟩ | ⟨q1, q2, _⟩⟩
                  · have := HPos.out; omega
                  · exact .inl ⟨q2, q1⟩
                  · exact .inr ⟨q2, q1⟩
              clear hown hor hb2 dcell
              have dcell := dcellw
              clear dcellw
              generalize L.length = ll at *
              rcases hcase with ⟨rfl, hbad⟩ | ⟨rfl, hbad⟩
              · have HS1 := hidS (HALL.out _ _ (.inr (.inr (.inl ⟨HPos.out, rfl, hbad, rfl, rfl⟩))))
                go_wp2
                go_ret2
                exact ⟨HBW.out, HS1.out⟩
              · have HBad := hidS hbad
                clear hbad
                go_wp2_with fail
                have hPage : PgOK (w2.alloc (.cells #[.slice a ts.length c, .bool false, .slice none 0 0, .string ⟨#[]⟩, .int .i64 0, .int .i64 0] 92)) ⟨w2.heap.size, w2.heap.size, a, c, ts, false⟩ none 0 [] pst0 := pg_new w2 a c ts false
                have dcell2 : (w2.alloc (.cells #[.slice a ts.length c, .bool false, .slice none 0 0, .string ⟨#[]⟩, .int .i64 0, .int .i64 0] 92)).cell? ⟨w.heap.size, 0, none⟩ = some (.slice da dl dc) := (World.cell?_alloc_lt _ _ _ hz2).trans dcell
                have HBA : Hid (Below w.heap.size w (w2.alloc (.cells #[.slice a ts.length c, .bool false, .slice none 0 0, .string ⟨#[]⟩, .int .i64 0, .int .i64 0] 92))) := HBW.out.alloc HBW.out.size _
                have HLo : Hid (∀ k, k < w2.heap.size → (w2.alloc (.cells #[.slice a ts.length c, .bool false, .slice none 0 0, .string ⟨#[]⟩, .int .i64 0, .int .i64 0] 92)).heap[k]? = w2.heap[k]?) := fun k hk => Below.heap_alloc _ _ _ hk
                have hzA : w.heap.size < (w2.alloc (.cells #[.slice a ts.length c, .bool false, .slice none 0 0, .string ⟨#[]⟩, .int .i64 0, .int .i64 0] 92)).heap.size := by simp; omega
                generalize hwA : w2.alloc (.cells #[.slice a ts.length c, .bool false, .slice none 0 0, .string ⟨#[]⟩, .int .i64 0, .int .i64 0] 92) = wa at *
                have c2 : wa.cell? ⟨w2.heap.size, 2, none⟩ = some (.slice none 0 0) := hPage.c2
                have f2 : wa.frozen? ⟨w2.heap.size, 2, none⟩ = false := hPage.f2
                have hpl : w2.heap.size < wa.heap.size := hPage.lt
                have o1 : wa.ownsRow (w2.heap.size + 1) 31 1 (.slice none 0 0) 0 [] := World.ownsRow_nil _ _ _ _
                have HPG := hidS hPage
                have hnn : ∀ k : Nat, some k ≠ (Value.slice none 0 0).ownBlock := fun k e => by cases e
                clear hwA hPage
                go_region_law (refine step_append_lies _ rfl _ _ 86 rfl (w2.heap.size + 1) 31 i0 (.agg #[.slice none 0 0]) 1 24 Tryz.underlying86 hi hz0 hz1x hzz rfl (by decide) _ _ _ rfl (by first | exact own_keep (o1.alloc _) (fun _ _ => rfl) | exact own_keep o1 (fun _ _ => rfl)) ⟨wa.heap.size, 0, none⟩ 1 1 [.slice da dl dc] rfl rfl (by exact row_cells wa _ _ _) (row_one _ _ _) (by decide) (by unfold maxLen; omega) (by omega) (by simp; omega) _ rfl ?_; intro g cap w3 hown3 hg3 hat3 hlt3; have hbk : w3.heap[w2.heap.size]? = wa.heap[w2.heap.size]? := (hg3.block _ (by simp; omega) (hnn _)).trans (Below.heap_alloc _ _ _ hpl); have q1 : w3.cell? ⟨w2.heap.size, 2, none⟩ = some (.slice none 0 0) := (World.cell?_of_block hbk).trans c2; have p1 : w3.frozen? ⟨w2.heap.size, 2, none⟩ = false := (World.frozen?_of_block hbk).trans f2)
                all_goals
                  have hgz : wa.heap.size ≤ g := by
                    rcases hat3 with h1 | h1
                    · exact absurd h1.symm (hnn g)
                    · simp at h1; omega
                  have hown4 : w3.ownsRow (w2.heap.size + 1) 31 1 (.slice (some ⟨g, 0, none⟩) (([] : List Dat).length + 1) cap) (([] : List Dat).length + 1) ([] ++ [.slice da d.len dc]) := by rw [HDL.out]; exact hown3
                  have hsz3 : wa.heap.size ≤ w3.heap.size := by have := hg3.size; simp at this; omega
                  have hVa : DatV wa w2.heap.size da d := HV.out.mono (by omega) (fun k hk => HBA.out.block k hk)
                  have hpp := pg_push (w := wa) (w1 := w3) (f := d) HPG.out rfl hg3.os hg3.tape hg3.output hsz3 (fun j h1 h2 => (hg3.block j (by simp; omega) (hnn _)).trans (Below.heap_alloc _ _ _ h1)) hown4 (.inr hgz) hVa HO.out HBk.out (by rw [HDL.out]; exact hlc) hdc
                  obtain ⟨hP4, hC4⟩ := hpp
                  clear hown3 hown4 hg3 hat3 hbk q1 p1 o1 c2 f2
                  have HB4 : Hid (Below w.heap.size w (w3.setCell ⟨w2.heap.size, 2, none⟩ (.slice (some ⟨g, 0, none⟩) 1 cap))) := HBA.out.trans ⟨hC4.os, hC4.tape, hC4.output, hC4.size, fun k hk => hC4.block k (by omega) (by show k ≠ w2.heap.size; omega) (fun e => by cases e)⟩
                  have hlow : ∀ k, k < w2.heap.size → (w3.setCell ⟨w2.heap.size, 2, none⟩ (.slice (some ⟨g, 0, none⟩) 1 cap)).heap[k]? = w2.heap[k]? := fun k hk => (hC4.block k (by omega) (by show k ≠ w2.heap.size; omega) (fun e => by cases e)).trans (HLo.out k hk)
                  have hP5 : PgOK (w3.setCell ⟨w2.heap.size, 2, none⟩ (.slice (some ⟨g, 0, none⟩) 1 cap)) ⟨w2.heap.size, w2.heap.size, a, c, ts, false⟩ (some ⟨g, 0, none⟩) cap [d] pst0 := hP4
                  clear hP4 hC4 hVa hsz3
                  generalize w3.setCell ⟨w2.heap.size, 2, none⟩ (.slice (some ⟨g, 0, none⟩) 1 cap) = w4 at *
                  have hTE : TmE w4 ⟨w2.heap.size, w2.heap.size, a, c, ts, false⟩ := ⟨SlcX.mono HSL2.out (fun k hk => hlow k hk.2) (fun k hk => hk.2) (fun xs => RowT.mono (fun k hk => hlow k hk.2) (fun k hk => hk.2) ts xs), hl6, HWF.out⟩
                  rcases tmAt hTE.tm with h0 | ⟨g2, hla, hall⟩
                  · exact absurd htl (by show ¬ _ < _; have : ts.length = 0 := h0; omega)
                  obtain ⟨_, _, ba, bn, bc, ct, hSb⟩ := hall (tno ts nm) htl
                  have hbn := slc_len hSb
                  subst hbn
                  have ebd := bod_at (tno ts nm) htl
                  have hwf := HWF.out (tno ts nm) htl
                  simp only at ct hSb hla
                  rw [← ebd] at ct hSb hwf
                  subst hla
                  have hcall := bod_all 500 w4 _ _ _ [d] pst0 ba bc (bod ts (tno ts nm)) (by simp) (by simp [pst0]) hTE hwf.1 hwf.2 hSb hP5
                  have hPA : pagF ts false 500 (bod ts (tno ts nm)) [d] pst0 = pagR ts nm false d := rfl
                  change Calls Tryz.prog 49 #[.pointer (some ⟨w2.heap.size, 0, none⟩), .slice ba (bod ts (tno ts nm)).len bc] w4 (fun e w' => e = .returned (.tuple #[]) ∧ ∃ ra' rc', PgOK w' ⟨w2.heap.size, w2.heap.size, some ⟨g2, 0, none⟩, c, ts, false⟩ ra' rc' [d] (pagR ts nm false d) ∧ ChP w2.heap.size (.slice (some ⟨g, 0, none⟩) [d].length cap) (.slice ra' [d].length rc') w4 w') at hcall
                  have Hcall := hidS hcall
                  have hg4 : w2.heap.size < g := by have := (hP5.own_lt g rfl).1; exact this
                  have hz4 := hP5.lt
                  simp only at hz4
                  have hti : (tno ts nm : Int) < (ts.length : Int) := by omega
                  clear hcall hTE hall hSb hwf ebd hP5 hPA hlow
                  generalize (bod ts (tno ts nm)).len = bl at *
                  go_wp2_with fail
                  refine Hcall.out.mono ?_
                  rintro e w5 ⟨rfl, ra5, rc5, hP5, hC5⟩
                  have HB5 : Hid (Below w.heap.size w w5) := HB4.out.trans ⟨hC5.os, hC5.tape, hC5.output, hC5.size, fun k hk => hC5.block k (by omega) (by omega) (fun e => by simp [Value.ownBlock] at e; omega)⟩
                  have c1 := hP5.c1
                  have c3 := hP5.c3
                  have c5 := hP5.c5
                  have hfit := hP5.fit.1
                  simp only at c1 c3 c5
                  have HAL : Hid (∀ out x, endS false (pagR ts nm false d) out x → RenPost s nm 1 d (.returned (.tuple #[.string out, .int .i64 x]))) := fun out x h => HALL.out out x (.inr (.inr (.inr ⟨HPos.out, .inr ⟨rfl, HBad.out⟩, h⟩)))
                  clear hP5 hC5 Hcall ct
                  generalize pagR ts nm false d = S at *
                  by_cases herr : S.err = 0
                  · have HSc := hidS (fun w' => c22 0 S.out w' (by unfold maxLen; omega))
                    change Hid (∀ w', Calls Tryz.prog 10 _ w' fun e w'' => e = .returned (.int .i64 (ctxO S.out)) ∧ w'' = w') at HSc
                    rw [herr] at c5
                    have HR := hidS (HAL.out _ _ (.inr (.inr ⟨herr, (fun h => by cases h), rfl, rfl⟩)))
                    go_wp2_with (go_at_call 10; refine (HSc.out _).mono ?_; rintro e w' ⟨rfl, hw⟩; obtain rfl := hw.symm)
                    go_ret2
                    exact ⟨HB5.out, HR.out⟩
                  · have HR := hidS (HAL.out _ _ (.inl ⟨herr, rfl, rfl⟩))
                    have herr' : (S.err == 0) = false := by simpa using herr
                    have herr2 : (S.err != 0) = true := by simpa using herr
                    go_wp2
                    go_quiet (fail)
                    go_wp2
                    go_ret2
                    exact ⟨below_drewN HB5.out _, HR.out⟩
        · have h0 : (way != 0) = true := by simp; omega
          have h1 : (way != 1) = true := by simp; omega
          have HS1 := hidS (HALL.out _ _ (.inl ⟨by omega, by omega, rfl, rfl⟩))
          clear hway Hf
          go_wp2
          go_ret2
          exact ⟨HB0.out, HS1.out⟩
  · have Hc := hidS (fun w' => c31long s w' (by omega) hm)
    have HE : Hid (ChkS s 1 0) := .inl ⟨by omega, rfl, rfl⟩
    generalize d.len = dl at *
    go_enter Tryz.func27, Tryz.ntmps27
    go_wp2_with (go_at_call 16; refine (Hc.out _).mono ?_; rintro e w' ⟨rfl, hw⟩; obtain rfl := hw.symm)
    go_ret2
    exact ⟨(Below.refl _ _).alloc (Nat.le_refl _) _, ren_err ⟨0, HE.out, by decide⟩⟩
end Go.Proofs.YtffkejkgkgfnhabGreat
