import Derived.Test.YtffkejkgkgfnhaaG24
import Derived.Test.YtffkejkgkgfnhaaG25
import Derived.Test.YtffkejkgkgfnhaaG11
import Derived.Test.YtffkejkgkgfnhaaG28
import Derived.Test.YtffkejkgkgfnhaaRows
import Derived.Test.YtffkejkgkgfnhaaG06
import Derived.ProofKit
import Derived.OpenShut
import Derived.ShutString
import Derived.SizedLaws
namespace Go.Proofs.Ytffkejkgkgfnhaa
open Go.RowKit
set_option linter.unusedVariables false
theorem src_of {s : ByteArray} {A : List Ak} {ts : List Tm} (hT : TFlat s ts A s.size) (hs : s.size ≤ 400) (hun : unA (seenB (names A)) A < 0) :
    SrcW s A ts ∧ (∀ nm, hitB nm A = true → 0 ≤ fndF nm ts 0 ∧ BodAt s A (idxA nm A 0 + 1) (bod ts (tno ts nm))) ∧ (∀ nm, hitB nm A = false → fndF nm ts 0 < 0) := by
  obtain ⟨β, hβ⟩ := hT.places
  have e3 : hasF ts = seenB (names A) := funext hT.has
  have key : ∀ nm, hitB nm A = true → 0 ≤ fndF nm ts 0 ∧ BodAt s A (idxA nm A 0 + 1) (bod ts (tno ts nm)) := fun nm hh => by
    have h1 : hasF ts nm = true := by rw [e3]; exact hh
    have h2 : 0 ≤ fndF nm ts 0 := by simpa [hasF] using h1
    exact ⟨h2, by rw [(hβ.find nm h2).2]; exact hβ.body _ (tno_lt' ts nm h2)⟩
  refine ⟨⟨hs, fun i hi hk => ?_⟩, key, fun nm hh => ?_⟩
  · have h1 : hitB A[i].name A = true := un_all _ A hun i hi hk
    exact ⟨h1, (key _ h1).2⟩
  · have h1 : hasF ts nm = false := by rw [e3]; exact hh
    simpa [hasF] using h1
theorem rspec_page {s : ByteArray} {ts : List Tm} {A : List Ak} {p : Nat} (hT : TFlat s ts A p) {nm : ByteArray} {d : Dat} {way : Int} (hf : 0 ≤ fndF nm ts 0) (hw : way = 0 ∨ (way = 1 ∧ ¬ TBad ts (tno ts nm))) {out : ByteArray} {x : Int} (h : endS true (pagR ts nm true d) out x) : RSpec ts nm way d out x := by
  refine .inr (.inr (.inr ⟨hf, hw, ?_⟩))
  rcases hw with rfl | ⟨rfl, hb⟩
  · exact h
  · obtain ⟨p1, p2, p3, p4⟩ := page_ways hT nm d hb
    have e : decide ((1 : Int) = 0) = false := by decide
    rw [e, ← p1]
    rcases h with ⟨b1, b2, b3⟩ | ⟨b1, _, b3, _⟩ | ⟨b1, b2, b3, b4⟩
    · exact .inl ⟨b1, b2, b3⟩
    · exact absurd (p4 b1) b3
    · exact .inr (.inr ⟨b1, (fun q => by cases q), b3, b4⟩)
theorem wr0 (w : World) (s : ByteArray) (A : List Ak) (g ac : Nat) (da : Option Addr) (d : Dat) (dc : Nat) (hV : DatV w w.heap.size da d) (hok : d.ok false) (hbk : d.fits) (hlc : d.len ≤ dc) (hdc : dc ≤ maxLen) (hat : AkAt s w g A) (hg : g < w.heap.size) (hA : A.length ≤ 1000) (hac : A.length ≤ ac) (hacm : ac ≤ maxLen) :
    WrC ((w.alloc (.cells #[.slice da d.len dc] 33)).alloc (.cells #[.slice (some ⟨g, 0, none⟩) A.length ac, .slice (some ⟨w.heap.size, 0, none⟩) 1 1, .slice none 0 0, .int .i64 0, .int .i64 0] 78)) ⟨w.heap.size + 1, w.heap.size, g, ac, s, A⟩ (some ⟨w.heap.size, 0, none⟩) 1 none 0 [d] pst0 := by
  have s1 : (w.alloc (.cells #[.slice da d.len dc] 33)).heap.size = w.heap.size + 1 := by simp
  have hF := heap_new (w.alloc (.cells #[.slice da d.len dc] 33)) (.cells #[.slice (some ⟨g, 0, none⟩) A.length ac, .slice (some ⟨w.heap.size, 0, none⟩) 1 1, .slice none 0 0, .int .i64 0, .int .i64 0] 78)
  rw [s1] at hF
  generalize hW : (w.alloc (.cells #[.slice da d.len dc] 33)).alloc (.cells #[.slice (some ⟨g, 0, none⟩) A.length ac, .slice (some ⟨w.heap.size, 0, none⟩) 1 1, .slice none 0 0, .int .i64 0, .int .i64 0] 78) = W at *
  have hR : W.heap[w.heap.size]? = some (.cells #[.slice da d.len dc] 33) := by rw [← hW, Below.heap_alloc _ _ _ (by omega)]; exact heap_new _ _
  have hL : ∀ k, k < w.heap.size → W.heap[k]? = w.heap[k]? := fun k hk => by rw [← hW, Below.heap_alloc _ _ _ (by omega), Below.heap_alloc _ _ _ hk]
  have hS : W.heap.size = w.heap.size + 2 := by rw [← hW]; simp
  have c := fun j => cell_of_heap (j := j) hF
  have f : ∀ (j : Nat), W.frozen? ⟨w.heap.size + 1, j, none⟩ = false := by
    intro j
    simp [World.frozen?, hF]
  refine ⟨c 0, c 1, c 2, c 3, c 4, f 1, f 2, f 3, f 4, ⟨[.slice da d.len dc], ⟨rfl, .inr ⟨w.heap.size, 1, #[.slice da d.len dc], rfl, Nat.le_refl _, hR, Nat.le_refl _, by unfold maxLen; omega, rfl, rfl⟩⟩, ?_⟩, by simp [Value.ownBlock], World.ownsRow_nil _ _ _ _, by show w.heap.size + 1 < _; omega, hat.far (hL g hg), hg, by show w.heap.size ≤ w.heap.size + 1; omega, hA, hac, hacm, ⟨by show (0 : Nat) ≤ 2000; omega, by show (0 : Nat) ≤ 500; omega⟩, ?_⟩
  · exact ⟨da, dc, [], rfl, hV.mono (Nat.le_refl _) hL, hok, hbk, hlc, hdc, rfl⟩
  · show 0 ≤ ctxO ⟨#[]⟩
    decide
theorem nums_back (o : ByteArray) : strOfNums (o.data.toList.map fun b => (b.toNat : Int)) = o := by
  apply ByteArray.ext
  apply Array.ext'
  rw [strOfNums_data, List.map_map]
  have : ((fun n : Int => UInt8.ofNat n.toNat) ∘ fun b : UInt8 => (b.toNat : Int)) = id := by
    funext b
    simp
  rw [this, List.map_id]
theorem cells_nums (o : ByteArray) : Lib.strCells o = (o.data.toList.map fun b => (b.toNat : Int)).map (Value.int .u8) := by
  simp [Lib.strCells]
set_option maxRecDepth 100000 in
set_option maxHeartbeats 4000000 in
theorem b52 : PROKW 31 := by
  intro s nm way w da d dc hm hV hok hbk hlc hdc
  have Hc := hidS (fun o => c33L s (w.alloc o) hm)
  have HV := hidS hV
  have HO := hidS hok
  have HBK := hidS hbk
  have hdl : d.len ≤ maxLen := Nat.le_trans hlc hdc
  unfold maxLen at hdl
  clear hV hok hbk
  generalize hdd : d.len = dl at *
  have HDL := hidS hdd
  clear hdd
  go_enter Try.func31, Try.ntmps31
  go_wp2_with fail
  refine (Hc.out _).mono ?_
  clear Hc
  rintro e w1 ⟨hb1, v, x, y, rfl, hk, hor⟩
  have dcell : w1.cell? ⟨w.heap.size, 0, none⟩ = some (.slice da dl dc) := (hb1.cell (p := ⟨w.heap.size, 0, none⟩) (by show w.heap.size < _; simp)).trans (by simp)
  have hz1 : w.heap.size < w1.heap.size := by have := hb1.size; simp at this; omega
  have HB1 : Hid (Below w.heap.size w w1) := ((Below.refl _ _).alloc (Nat.le_refl _) _).trans (hb1.mono (by simp))
  clear hb1
  rcases hor with ⟨hx, rfl⟩ | ⟨rfl, g, ac, A, rfl, hs, hE, htw, hun, hat, hg1, hg2, hac, hacm, hA⟩
  · have HK := hidS (ren_err (nm := nm) (way := way) (d := d) ⟨y, hk, hx⟩)
    clear hk
    have hx2 : (x == 0) = false := by simp [hx]
    have hx3 : (x != 0) = true := by simp [hx]
    go_wp2
    go_ret2
    exact ⟨HB1.out, HK.out⟩
  · obtain ⟨ts, hT, hts6⟩ := tflat_ex s A hs hE w
    obtain ⟨hSrc, hkey, hmiss⟩ := src_of hT hs hun
    have HALL : Hid (∀ out x, RSpec ts nm way d out x → RenPost s nm way d (.returned (.tuple #[.string out, .int .i64 x]))) := fun out x h => ⟨out, x, rfl, .inr ⟨ts, A, hT, hs, hE, htw, hun, h⟩⟩
    have HPW : Hid (∀ x L, PWalk s nm x L → WSpec ts nm x L) := fun x L h => by
      rcases h with ⟨z, q1, q2, _⟩ | ⟨A', q1, q2, q3, q4, q5⟩
      · exact absurd (chkS_unique q1 hk).1 q2
      · have eA := ends_unique q2 hE
        cases eA
        exact q5 ts hT
    have HT := hidS hT
    have HSR := hidS hSrc
    have HKEY := hidS (hkey nm)
    have HMISS := hidS (hmiss nm)
    have HAT := hidS hat
    have hf := c71 s w1 g ac A.length A nm (Nat.le_refl _) hA hat
    rw [List.take_length] at hf
    have Hf := hidS hf
    clear hk hT hSrc hkey hmiss hE htw hun hat hf
    by_cases hway : way = 0 ∨ way = 1
    · cases hh : hitB nm A
      · have HS1 := hidS (HALL.out _ _ (.inr (.inl ⟨hway, HMISS.out hh, rfl, rfl⟩)))
        rw [hh] at Hf
        generalize idxA nm A 0 = IX at *
        rcases hway with rfl | rfl
        all_goals
          go_wp2_with (go_at_call 37; refine Hf.out.mono ?_; rintro e w' ⟨rfl, hw⟩; obtain rfl := hw.symm)
          go_ret2
          exact ⟨HB1.out, HS1.out⟩
      · obtain ⟨hfnd, hbod⟩ := HKEY.out hh
        have HBD := hidS hbod
        have hixl := hbod.lt
        rw [hh] at Hf
        clear HKEY HMISS hbod hh
        generalize idxA nm A 0 = IX at *
        rcases hway with rfl | rfl
        · go_wp2_with (go_at_call 37; refine Hf.out.mono ?_; rintro e w' ⟨rfl, hw⟩; obtain rfl := hw.symm)
          have hzb : w.heap.size < w1.heap.size := by omega
          have hwr := wr0 w1 s A g ac da d dc (DatV.mono HV.out (by omega) (fun q hq => HB1.out.block q hq)) HO.out HBK.out (by rw [HDL.out]; exact hlc) hdc HAT.out hg2 hA hac hacm
          rw [HDL.out] at hwr
          have hcall := bodW_all 500 _ ⟨w1.heap.size + 1, w1.heap.size, g, ac, s, A⟩ ts [d] pst0 (IX + 1) (bod ts (tno ts nm)) (by simp) (by simp) HSR.out HBD.out rfl ⟨_, _, _, _, hwr⟩
          change Calls Try.prog 41 #[.pointer (some ⟨w1.heap.size + 1, 0, none⟩), .int .i64 ((IX + 1 : Nat) : Int)] _ (WrPost ⟨w1.heap.size + 1, w1.heap.size, g, ac, s, A⟩ [d] (pagR ts nm true d) _) at hcall
          have hcast : ((IX + 1 : Nat) : Int) = (IX : Int) + 1 := by omega
          rw [hcast] at hcall
          have HEND : Hid (∀ out x, endS true (pagR ts nm true d) out x → RenPost s nm 0 d (.returned (.tuple #[.string out, .int .i64 x]))) := fun out x h => HALL.out out x (rspec_page HT.out hfnd (.inl rfl) h)
          have HBA : Hid (Below w.heap.size w ((w1.alloc (.cells #[.slice da dl dc] 33)).alloc (.cells #[.slice (some ⟨g, 0, none⟩) A.length ac, .slice (some ⟨w1.heap.size, 0, none⟩) 1 1, .slice none 0 0, .int .i64 0, .int .i64 0] 78))) := (HB1.out.alloc (by omega) _).alloc (by simp; omega) _
          have hpa := hwr.lt
          have Hcall := hidS hcall
          clear hcall hwr hcast
          generalize pagR ts nm true d = S at *
          generalize (w1.alloc (.cells #[.slice da dl dc] 33)).alloc (.cells #[.slice (some ⟨g, 0, none⟩) A.length ac, .slice (some ⟨w1.heap.size, 0, none⟩) 1 1, .slice none 0 0, .int .i64 0, .int .i64 0] 78) = wa at *
          refine Hcall.out.mono ?_
          rintro e w3 ⟨rfl, h3, hc3⟩
          have HB3 : Hid (Below w.heap.size w w3) := HBA.out.trans (hc3.below hpa (by show w1.heap.size ≤ w1.heap.size + 1; omega) w.heap.size (by show w.heap.size ≤ w1.heap.size; omega))
          by_cases he : S.err = 0
          · obtain ⟨ra, rc, oa, oc, hC⟩ := h3 he
            have c2 : w3.cell? ⟨w1.heap.size + 1, 2, none⟩ = some (.slice oa S.out.size oc) := hC.c2
            have c3 : w3.cell? ⟨w1.heap.size + 1, 3, none⟩ = some (.int .i64 (ctxO S.out)) := hC.c3
            have hO := hC.ownO
            have hpl : w1.heap.size + 1 < w3.heap.size := hC.lt
            rw [cells_nums] at hO
            have kc := cv_own w3 _ _ _ _ hO
            rw [nums_back] at kc
            rw [he]
            clear h3 hc3 Hcall hO hC
            by_cases hx : ctxO S.out = 0
            · have HR := hidS (HEND.out _ _ (.inr (.inr ⟨he, fun _ => hx, rfl, rfl⟩)))
              rw [hx] at c3
              go_wp2
              go_ret2
              exact ⟨HB3.out, HR.out⟩
            · have HR := hidS (HEND.out _ _ (.inr (.inl ⟨he, rfl, hx, rfl, rfl⟩)))
              have hx2 : (ctxO S.out != 0) = true := by simpa using hx
              generalize ctxO S.out = cx at *
              go_wp2
              go_ret2
              exact ⟨HB3.out, HR.out⟩
          · have HR := hidS (HEND.out _ _ (.inl ⟨he, rfl, rfl⟩))
            have he2 : (S.err != 0) = true := by simpa using he
            clear h3 hc3 Hcall
            go_wp2
            go_ret2
            exact ⟨HB3.out, HR.out⟩
        · have Hw := hidS (p48 s nm w1 hm)
          go_wp2_with (go_at_call 37; refine Hf.out.mono ?_; rintro e w' ⟨rfl, hw⟩; obtain rfl := hw.symm)
          refine Hw.out.mono ?_
          rintro e w2 ⟨hb2, a2, c2', x2, L2, rfl, _, hL2, hpw⟩
          have hws := HPW.out _ _ hpw
          have HB2 : Hid (Below w.heap.size w w2) := HB1.out.trans (hb2.mono (by omega))
          have hz2 : w1.heap.size ≤ w2.heap.size := hb2.size
          have HAT2 : Hid (AkAt s w2 g A) := HAT.out.far (hb2.block g hg2)
          have hg3 : g < w2.heap.size := by omega
          have dcell2 : w2.cell? ⟨w.heap.size, 0, none⟩ = some (.slice da dl dc) := (hb2.cell (p := ⟨w.heap.size, 0, none⟩) hz1).trans dcell
          clear Hw hb2 hpw dcell
          generalize L2.length = ll at *
          rcases hws with ⟨q1, _⟩ | ⟨_, ⟨q1, rfl, _⟩ | ⟨q1, rfl, _⟩⟩
          · omega
          · have HS1 := hidS (HALL.out _ _ (.inr (.inr (.inl ⟨hfnd, rfl, q1, rfl, rfl⟩))))
            go_wp2
            go_ret2
            exact ⟨HB2.out, HS1.out⟩
          · go_wp2_with fail
            have hzb : w.heap.size < w2.heap.size := by omega
            have hwr := wr0 w2 s A g ac da d dc (DatV.mono HV.out (by omega) (fun q hq => HB2.out.block q hq)) HO.out HBK.out (by rw [HDL.out]; exact hlc) hdc HAT2.out hg3 hA hac hacm
            rw [HDL.out] at hwr
            have hcall := bodW_all 500 _ ⟨w2.heap.size + 1, w2.heap.size, g, ac, s, A⟩ ts [d] pst0 (IX + 1) (bod ts (tno ts nm)) (by simp) (by simp) HSR.out HBD.out rfl ⟨_, _, _, _, hwr⟩
            change Calls Try.prog 41 #[.pointer (some ⟨w2.heap.size + 1, 0, none⟩), .int .i64 ((IX + 1 : Nat) : Int)] _ (WrPost ⟨w2.heap.size + 1, w2.heap.size, g, ac, s, A⟩ [d] (pagR ts nm true d) _) at hcall
            have hcast : ((IX + 1 : Nat) : Int) = (IX : Int) + 1 := by omega
            rw [hcast] at hcall
            have HEND : Hid (∀ out x, endS true (pagR ts nm true d) out x → RenPost s nm 1 d (.returned (.tuple #[.string out, .int .i64 x]))) := fun out x h => HALL.out out x (rspec_page HT.out hfnd (.inr ⟨rfl, q1⟩) h)
            have HBA : Hid (Below w.heap.size w ((w2.alloc (.cells #[.slice da dl dc] 33)).alloc (.cells #[.slice (some ⟨g, 0, none⟩) A.length ac, .slice (some ⟨w2.heap.size, 0, none⟩) 1 1, .slice none 0 0, .int .i64 0, .int .i64 0] 78))) := (HB2.out.alloc (by omega) _).alloc (by simp; omega) _
            have hpa := hwr.lt
            have Hcall := hidS hcall
            clear hcall hwr hcast
            generalize pagR ts nm true d = S at *
            generalize (w2.alloc (.cells #[.slice da dl dc] 33)).alloc (.cells #[.slice (some ⟨g, 0, none⟩) A.length ac, .slice (some ⟨w2.heap.size, 0, none⟩) 1 1, .slice none 0 0, .int .i64 0, .int .i64 0] 78) = wa at *
            refine Hcall.out.mono ?_
            rintro e w3 ⟨rfl, h3, hc3⟩
            have HB3 : Hid (Below w.heap.size w w3) := HBA.out.trans (hc3.below hpa (by show w2.heap.size ≤ w2.heap.size + 1; omega) w.heap.size (by show w.heap.size ≤ w2.heap.size; omega))
            by_cases he : S.err = 0
            · obtain ⟨ra, rc, oa, oc, hC⟩ := h3 he
              have c2 : w3.cell? ⟨w2.heap.size + 1, 2, none⟩ = some (.slice oa S.out.size oc) := hC.c2
              have c3 : w3.cell? ⟨w2.heap.size + 1, 3, none⟩ = some (.int .i64 (ctxO S.out)) := hC.c3
              have hO := hC.ownO
              have hpl : w2.heap.size + 1 < w3.heap.size := hC.lt
              rw [cells_nums] at hO
              have kc := cv_own w3 _ _ _ _ hO
              rw [nums_back] at kc
              rw [he]
              clear h3 hc3 Hcall hO hC
              by_cases hx : ctxO S.out = 0
              · have HR := hidS (HEND.out _ _ (.inr (.inr ⟨he, fun _ => hx, rfl, rfl⟩)))
                rw [hx] at c3
                go_wp2
                go_ret2
                exact ⟨HB3.out, HR.out⟩
              · have HR := hidS (HEND.out _ _ (.inr (.inl ⟨he, rfl, hx, rfl, rfl⟩)))
                have hx2 : (ctxO S.out != 0) = true := by simpa using hx
                generalize ctxO S.out = cx at *
                go_wp2
                go_ret2
                exact ⟨HB3.out, HR.out⟩
            · have HR := hidS (HEND.out _ _ (.inl ⟨he, rfl, rfl⟩))
              have he2 : (S.err != 0) = true := by simpa using he
              clear h3 hc3 Hcall
              go_wp2
              go_ret2
              exact ⟨HB3.out, HR.out⟩
    · have h0 : (way != 0) = true := by simp; omega
      have h1 : (way != 1) = true := by simp; omega
      have HS1 := hidS (HALL.out _ _ (.inl ⟨by omega, by omega, rfl, rfl⟩))
      clear hway
      go_wp2
      go_ret2
      exact ⟨HB1.out, HS1.out⟩
set_option maxHeartbeats 1000000 in
theorem b30w : PROKW 16 := by
  intro s nm way w da d dc hm hV hok hbk hlc hdc
  have Hc := hidS (fun o => b52 s nm way (w.alloc o) da d dc hm (DatV.mono hV (by simp) (fun q hq => Below.heap_alloc _ _ _ hq)) hok hbk hlc hdc)
  have Hc2 := hidS (b52 s nm way w da d dc hm hV hok hbk hlc hdc)
  clear hV hok hbk
  generalize d.len = dl at *
  go_enter Try.func16, Try.ntmps16
  go_wp2_with fail
  first
    | refine (Hc.out _).mono ?_
    | refine Hc2.out.mono ?_
  rintro e w1 ⟨hb, out, x, rfl, hp⟩
  have HB : Hid (Below w.heap.size w w1) := by first | exact hb | exact ((Below.refl _ _).alloc (Nat.le_refl _) _).trans (hb.mono (by simp))
  have HP := hidS hp
  clear hp hb
  go_wp2
  go_ret2
  exact ⟨HB.out, out, x, rfl, HP.out⟩
theorem b30 : PROK 16 := b30w.small
end Go.Proofs.Ytffkejkgkgfnhaa
namespace Go.Proofs.Ytffkejkgkgfnhaa
open Go.ChangeShapes Go.WideShapes Go.ChangeAt Go.RowKit Go.Deep
open Go.ChangeMaps (open_string shut_string)
set_option linter.unusedVariables false
theorem ownK : ownKnob Try.prog.godebug = none := by kernel_rfl
theorem laidK : laidOutB Try.prog = true := by kernel_rfl
end Go.Proofs.Ytffkejkgkgfnhaa
