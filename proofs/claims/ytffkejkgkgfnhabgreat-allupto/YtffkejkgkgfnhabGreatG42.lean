import Derived.Test.YtffkejkgkgfnhabGreatG39
import Derived.Test.YtffkejkgkgfnhabGreatG41
import Derived.Test.YtffkejkgkgfnhabGreatG24
import Derived.Deep.RegionHeld3
import Derived.Test.YtffkejkgkgfnhabGreatG38
import Derived.Test.YtffkejkgkgfnhabGreatG23
import Derived.Test.YtffkejkgkgfnhabGreatG29
import Derived.Test.YtffkejkgkgfnhabGreatG25
namespace Go.Proofs.YtffkejkgkgfnhabGreat
open Go.RowKit
set_option linter.unusedVariables false
def zV : Value := .agg (Array.replicate 24 (.bool false))
def zA (n : Nat) : Array Value := madeCells zV.cells (n * 24)
theorem infoArr : (Tryz.prog.info? 132).map (fun i => (i.zero, i.size, i.bytes)) = some (some zV, 24, 24) := by kernel_rfl
theorem make107 (w : World) (n : Nat) (hn : n ≤ 1000) : (Instr.makeSlice 107 (.int .i64 n) (.int .i64 n)).run Tryz.prog w = .ok (.slice (some ⟨w.heap.size, 0, none⟩) n n) (w.alloc (.cells (zA n) 132)) := by
  obtain ⟨i0, hi, hz0, hz1, hz2⟩ := info_parts infoArr
  have := run_make (P := Tryz.prog) w 107 132 i0 zV Tryz.underlying107 hi hz0 .i64 .i64 n n (by omega) (by omega) (by rw [hz2]; omega) (by omega)
  rw [hz1] at this
  simpa [zA] using this
theorem zA_at (n k : Nat) (h : k < n * 24) : (zA n)[k]? = some (.bool false) := by
  have e : zV.cells = Array.replicate 24 (.bool false) := by rfl
  have : k % 24 < 24 := Nat.mod_lt _ (by decide)
  unfold zA
  rw [e]
  simp [madeCells, h, this]
theorem tflat_ex (s : ByteArray) (A : List Ak) (hs : s.size ≤ 400) (hE : Ends s init (.fin A)) (w : World) : ∃ ts, TFlat s ts A s.size ∧ ts.length ≤ 6 := fin_flat hE
theorem fk0 (s : ByteArray) (A : List Ak) (w : World) (g ac : Nat) (Z0 : Array Value) (hA : A.length ≤ 1000) (hat : AkAt s w g A) (hg : g < w.heap.size) (hZ : ∀ k, k < A.length * 24 → Z0[k]? = some (.bool false)) :
    FkOK s A ((w.alloc (.cells Z0 132)).alloc (.cells #[.slice (some ⟨g, 0, none⟩) A.length ac, .slice none 0 0, .slice (some ⟨w.heap.size, 0, none⟩) A.length A.length, .bool false] 110)) ⟨w.heap.size + 1, g, ac, w.heap.size, A.length, w.heap.size + 2⟩ none 0 ⟨[], fun _ _ => false, false⟩ := by
  have s1 : (w.alloc (.cells Z0 132)).heap.size = w.heap.size + 1 := by simp
  have hF := heap_new (w.alloc (.cells Z0 132)) (.cells #[.slice (some ⟨g, 0, none⟩) A.length ac, .slice none 0 0, .slice (some ⟨w.heap.size, 0, none⟩) A.length A.length, .bool false] 110)
  rw [s1] at hF
  generalize hW : (w.alloc (.cells Z0 132)).alloc (.cells #[.slice (some ⟨g, 0, none⟩) A.length ac, .slice none 0 0, .slice (some ⟨w.heap.size, 0, none⟩) A.length A.length, .bool false] 110) = W at *
  have hC : W.heap[w.heap.size]? = some (.cells Z0 132) := by rw [← hW, Below.heap_alloc _ _ _ (by omega)]; exact heap_new _ _
  have hG : W.heap[g]? = w.heap[g]? := by rw [← hW, Below.heap_alloc _ _ _ (by omega), Below.heap_alloc _ _ _ hg]
  have hS : W.heap.size = w.heap.size + 2 := by rw [← hW]; simp
  have c := fun j => cell_of_heap (j := j) hF
  have f : ∀ {g : Nat} {cur : Array Value} {ty : Nat} (j : Nat), W.heap[g]? = some (.cells cur ty (0, 0)) → W.frozen? ⟨g, j, none⟩ = false := by
    intro g cur ty j h
    simp [World.frozen?, h]
  refine ⟨c 0, c 1, c 2, c 3, f 1 hF, f 3 hF, World.ownsRow_nil _ _ _ _, hat.far hG, fun i hi k hk => ⟨(cell_of_heap hC).trans (hZ _ (by omega)), f _ hC⟩, by show w.heap.size + 1 ≠ g; omega, by show w.heap.size + 1 ≠ w.heap.size; omega, by show g ≠ w.heap.size; omega, by show w.heap.size + 1 < w.heap.size + 2; omega, by show g < w.heap.size + 2; omega, by show w.heap.size < w.heap.size + 2; omega, by show w.heap.size + 2 ≤ W.heap.size; omega, hA⟩
theorem Fr.below {f : Fp} {w w' : World} {n : Nat} (h : Fr f w w') (h0 : n ≤ f.F) (h1 : n ≤ f.cg) (h2 : n ≤ f.B) : Below n w w' :=
  ⟨h.os, h.tape, h.output, h.size, fun k hk => h.block k (by omega) (by omega) (by omega)⟩
theorem good_of {s : ByteArray} {A : List Ak} (hs : s.size ≤ 400) (hun : unA (seenB (names A)) A < 0) (nm : ByteArray) (hhit : hitB nm A = true) (ts : List Tm) (hT : TFlat s ts A s.size) : ∃ β, Good s A (idxA nm A 0) ts β (tno ts nm) ∧ 0 ≤ fndF nm ts 0 := by
  obtain ⟨β, hβ⟩ := hT.places
  have e3 : hasF ts = seenB (names A) := funext hT.has
  have hf : 0 ≤ fndF nm ts 0 := by
    have : hasF ts nm = true := by rw [e3]; exact hhit
    simpa [hasF] using this
  have hw := hT.wf hs (by rw [hT.un ts, e3]; exact hun)
  have := fndF_range nm ts 0
  exact ⟨β, ⟨hβ, fun i hi => (hw i hi).1, by unfold tno; omega, (hβ.find nm hf).2.symm⟩, hf⟩
theorem miss_of {s : ByteArray} {A : List Ak} (nm : ByteArray) (hhit : hitB nm A = false) (ts : List Tm) (hT : TFlat s ts A s.size) : WSpec ts nm 4 [] := by
  have e3 : hasF ts = seenB (names A) := funext hT.has
  have : hasF ts nm = false := by rw [e3]; exact hhit
  refine .inl ⟨?_, rfl, rfl⟩
  simpa [hasF] using this
theorem pw_nil (s nm : ByteArray) (w w' : World) (x : Int) (h : PWalk s nm x []) : PWPost s nm w (.returned (.tuple #[.slice none 0 0, .int .i64 x])) w' :=
  ⟨none, 0, x, [], rfl, World.ownsRow_nil _ _ _ _, by simp, h⟩
set_option maxRecDepth 100000 in
set_option maxHeartbeats 4000000 in
theorem p48 : PWOK 45 := by
  intro s nm w hm
  have Hc := hidS (c33L s w hm)
  go_enter Tryz.func45, Tryz.ntmps45
  go_wp2_with fail
  refine Hc.out.mono ?_
  clear Hc
  rintro e w1 ⟨hb1, v, x, y, rfl, hk, hor⟩
  rcases hor with ⟨hx, rfl⟩ | ⟨rfl, g, ac, A, rfl, hs, hE, htw, hun, hat, hg1, hg2, hac, hacm, hA⟩
  · have HK : Hid (PWalk s nm x []) := .inl ⟨y, hk, hx, rfl⟩
    clear hk
    have hx2 : (x == 0) = false := by simp [hx]
    go_wp2
    go_ret2
    exact ⟨hb1, pw_nil s nm w w1 x HK.out⟩
  · have HE := hidS hE
    have HTW := hidS htw
    have HUN := hidS hun
    have HAT := hidS hat
    have Hf := hidS (c71 s w1 g ac A.length A nm (Nat.le_refl _) hA hat)
    rw [List.take_length] at Hf
    have HR := hidS (ris_ends hE)
    clear hE htw hun hat hk
    go_wp2_with fail
    refine Hf.out.mono ?_
    rintro e w2 ⟨rfl, hw⟩
    obtain rfl := hw.symm
    clear Hf
    cases hh : hitB nm A
    · have HK : Hid (PWalk s nm 4 []) := .inr ⟨A, hs, HE.out, HTW.out, HUN.out, fun ts hT => miss_of nm hh ts hT⟩
      generalize idxA nm A 0 = IX at *
      go_wp2
      go_ret2
      exact ⟨hb1, pw_nil s nm w w1 4 HK.out⟩
    · have hix : idxA nm A 0 ≤ 1000 := by have := idx_le nm A 0; omega
      have HEX : Hid (∃ ts β t0, Good s A (idxA nm A 0) ts β t0) := by
        obtain ⟨ts, hT, _⟩ := tflat_ex s A hs HE.out w
        obtain ⟨β, hG, _⟩ := good_of hs HUN.out nm hh ts hT
        exact ⟨ts, β, _, hG⟩
      have HBAD : Hid ((∀ ts β t0, Good s A (idxA nm A 0) ts β t0 → TBad ts t0) → PWalk s nm 6 []) := fun hq => .inr ⟨A, hs, HE.out, HTW.out, HUN.out, fun ts hT => by
        obtain ⟨β, hG, h0⟩ := good_of hs HUN.out nm hh ts hT
        exact .inr ⟨h0, .inl ⟨hq ts β _ hG, rfl, rfl⟩⟩⟩
      have HOK : Hid (∀ fs', (∀ ts β t0, Good s A (idxA nm A 0) ts β t0 → RInv s A ts β t0 fs'.gs.length fs') → fs'.grew = false → PWalk s nm 0 (usA A fs'.cm (A.length * 24))) := fun fs' hq hn => .inr ⟨A, hs, HE.out, HTW.out, HUN.out, fun ts hT => by
        obtain ⟨β, hG, h0⟩ := good_of hs HUN.out nm hh ts hT
        obtain ⟨q1, q2⟩ := usA_list hG HR.out (hq ts β _ hG) hn
        exact .inr ⟨h0, .inr ⟨q1, rfl, q2⟩⟩⟩
      have HI : Hid (∀ ts β t0, Good s A (idxA nm A 0) ts β t0 → FInv s A ts β t0 ⟨[⟨idxA nm A 0, 0, -1⟩], fun _ _ => false, true⟩) := fun ts β t0 hG => by
        rw [← hG.beg]; exact finv0 s A ts β t0 hG.plc hG.lt
      have hRL := ris_len HR.out
      clear HE HTW HUN hh HR
      generalize idxA nm A 0 = IX at *
      have M1 := fun wx : World => make107 wx A.length hA
      have HZ := hidS (zA_at A.length)
      generalize zA A.length = Z0 at *
      have hsz := hb1.size
      have hf0 := fk0 s A w1 g ac Z0 hA HAT.out hg2 HZ.out
      have hb2 : Below w.heap.size w ((w1.alloc (.cells Z0 132)).alloc (.cells #[.slice (some ⟨g, 0, none⟩) A.length ac, .slice none 0 0, .slice (some ⟨w1.heap.size, 0, none⟩) A.length A.length, .bool false] 110)) := (hb1.alloc (by omega) _).alloc (by simp; omega) _
      go_wp2_with fail
      generalize hW : (w1.alloc (.cells Z0 132)).alloc (.cells #[.slice (some ⟨g, 0, none⟩) A.length ac, .slice none 0 0, .slice (some ⟨w1.heap.size, 0, none⟩) A.length A.length, .bool false] 110) = W at *
      clear hW M1 HZ HAT
      obtain ⟨f, hf, e1, e2, e3⟩ : ∃ f : Fp, f = ⟨w1.heap.size + 1, g, ac, w1.heap.size, A.length, w1.heap.size + 2⟩ ∧ f.F = w1.heap.size + 1 ∧ w.heap.size ≤ f.cg ∧ w.heap.size ≤ f.B := ⟨_, rfl, rfl, hsz, by show _ ≤ w1.heap.size + 2; omega⟩
      rw [← hf] at hf0
      rw [← e1]
      have hF : w.heap.size ≤ f.F := by omega
      have Hmt := hidS (p72 s A W f none 0 ⟨[], fun _ _ => false, false⟩ IX 0 hix (by decide) (by simp) hf0)
      have HK0 := hidS hf0
      clear hf hf0 e1
      refine Hmt.out.mono ?_
      rintro e W2 ⟨rfl, hfo⟩
      clear Hmt
      change FOut s A f none 0 0 W W2 ⟨[⟨IX, 0, -1⟩], fun _ _ => false, true⟩ at hfo
      have hfr2 := Fr.of_chg HK0.out hfo.1
      obtain ⟨_, ga, gc, hk2, _⟩ := hfo
      have hb3 : Below w.heap.size w W2 := hb2.trans (hfr2.below hF e2 e3)
      have Hfa := hidS (p73 s A IX HEX.out W2 f ga gc _ hs hk2 HI.out rfl)
      clear hk2 hfr2 HK0 hb2 HI HEX
      go_wp2_with fail
      refine Hfa.out.mono ?_
      rintro e W3 ⟨hfr3, hor⟩
      have hb4 : Below w.heap.size w W3 := hb3.trans (hfr3.below hF e2 e3)
      clear Hfa hfr3 hb3
      rcases hor with ⟨hbad, rfl⟩ | ⟨fs', ga', gc', rfl, hk3, hri, hgr⟩
      · have HF := hidS (HBAD.out hbad)
        clear hbad HBAD HOK
        go_wp2
        go_ret2
        exact ⟨hb4, pw_nil s nm w W3 6 HF.out⟩
      · have HF := hidS (HOK.out fs' hri hgr)
        have Hus := hidS (p74 s A W3 f ga' gc' fs' hk3)
        have hul := usA_len A fs'.cm (A.length * 24)
        clear hri hgr hk3 HOK HBAD
        unfold UsPost at Hus
        generalize usA A fs'.cm (A.length * 24) = LL at *
        go_wp2_with fail
        refine Hus.out.mono ?_
        rintro e W4 ⟨hb5, a, c, rfl, hown⟩
        have HO := hidS hown
        have hb6 : Below w.heap.size w W4 := hb4.trans (hb5.mono hb4.size)
        have hs4 := hb4.size
        clear Hus hown
        go_wp2
        go_ret2
        exact ⟨hb6, a, c, 0, LL, rfl, own_base HO.out hs4, by omega, HF.out⟩
set_option maxHeartbeats 1000000 in
theorem p25 : PWOK 22 := by
  intro s nm w hm
  have Hc := hidS (p48 s nm w hm)
  go_enter Tryz.func22, Tryz.ntmps22
  go_wp2_with fail
  refine Hc.out.mono ?_
  clear Hc
  rintro e w1 ⟨hb, a, c, x, L, rfl, ho, hl, hp⟩
  have HO := hidS ho
  have HP := hidS hp
  clear ho hp
  go_wp2
  go_ret2
  exact ⟨hb, a, c, x, L, rfl, HO.out, hl, HP.out⟩
end Go.Proofs.YtffkejkgkgfnhabGreat
namespace Go.Proofs.YtffkejkgkgfnhabGreat
open Go.RowKit
set_option linter.unusedVariables false
theorem src_of {s : ByteArray} {A : List Ak} {ts : List Tm} (hT : TFlat s ts A s.size) (hs : s.size ≤ 400) (hun : unA (seenB (names A)) A < 0) :
    SrcW s A ts ∧ (∀ nm, hitB nm A = true → 0 ≤ fndF nm ts 0 ∧ BodAt s A (idxA nm A 0 + 1) (bod ts (tno ts nm))) ∧ (∀ nm, hitB nm A = false → fndF nm ts 0 < 0) := by
  obtain ⟨β, hβ⟩ := hT.places
  have e3 : hasF ts = seenB (names A) := funext hT.has
  have key : ∀ nm, hitB nm A = true → 0 ≤ fndF nm ts 0 ∧ BodAt s A (idxA nm A 0 + 1) (bod ts (tno ts nm)) := fun nm hh => by
    have h1 : hasF ts nm = true := by rw [e3]; exact hh
    have h2 : 0 ≤ fndF nm ts 0 := by simpa [hasF] using h1
    exact ⟨h2, by rw [(hβ.find nm h2).2]; exact hβ.body _ (tno_lt' ts nm h2)⟩
  refine ⟨⟨hs, fun i hi hk => ?_⟩, key, fun nm hh => ?_⟩
  · have h1 : hitB A[i].name A = true := un_all _ A hun i hi hk
    exact ⟨h1, (key _ h1).2⟩
  · have h1 : hasF ts nm = false := by rw [e3]; exact hh
    simpa [hasF] using h1
theorem rspec_page {s : ByteArray} {ts : List Tm} {A : List Ak} {p : Nat} (hT : TFlat s ts A p) {nm : ByteArray} {d : Dat} {way : Int} (hf : 0 ≤ fndF nm ts 0) (hw : way = 0 ∨ (way = 1 ∧ ¬ TBad ts (tno ts nm))) {out : ByteArray} {x : Int} (h : endS true (pagR ts nm true d) out x) : RSpec ts nm way d out x := by
  refine .inr (.inr (.inr ⟨hf, hw, ?_⟩))
  rcases hw with rfl | ⟨rfl, hb⟩
  · exact h
  · obtain ⟨p1, p2, p3, p4⟩ := page_ways hT nm d hb
    have e : decide ((1 : Int) = 0) = false := by decide
    rw [e, ← p1]
    rcases h with ⟨b1, b2, b3⟩ | ⟨b1, _, b3, _⟩ | ⟨b1, b2, b3, b4⟩
    · exact .inl ⟨b1, b2, b3⟩
    · exact absurd (p4 b1) b3
    · exact .inr (.inr ⟨b1, (fun q => by cases q), b3, b4⟩)
theorem wr0 (w : World) (s : ByteArray) (A : List Ak) (g ac : Nat) (da : Option Addr) (d : Dat) (dc : Nat) (hV : DatV w w.heap.size da d) (hok : d.ok false) (hbk : d.fits) (hlc : d.len ≤ dc) (hdc : dc ≤ maxLen) (hat : AkAt s w g A) (hg : g < w.heap.size) (hA : A.length ≤ 1000) (hac : A.length ≤ ac) (hacm : ac ≤ maxLen) :
    WrC ((w.alloc (.cells #[.slice da d.len dc] 31)).alloc (.cells #[.slice (some ⟨g, 0, none⟩) A.length ac, .slice (some ⟨w.heap.size, 0, none⟩) 1 1, .slice none 0 0, .int .i64 0, .int .i64 0] 114)) ⟨w.heap.size + 1, w.heap.size, g, ac, s, A⟩ (some ⟨w.heap.size, 0, none⟩) 1 none 0 [d] pst0 := by
  have s1 : (w.alloc (.cells #[.slice da d.len dc] 31)).heap.size = w.heap.size + 1 := by simp
  have hF := heap_new (w.alloc (.cells #[.slice da d.len dc] 31)) (.cells #[.slice (some ⟨g, 0, none⟩) A.length ac, .slice (some ⟨w.heap.size, 0, none⟩) 1 1, .slice none 0 0, .int .i64 0, .int .i64 0] 114)
  rw [s1] at hF
  generalize hW : (w.alloc (.cells #[.slice da d.len dc] 31)).alloc (.cells #[.slice (some ⟨g, 0, none⟩) A.length ac, .slice (some ⟨w.heap.size, 0, none⟩) 1 1, .slice none 0 0, .int .i64 0, .int .i64 0] 114) = W at *
  have hR : W.heap[w.heap.size]? = some (.cells #[.slice da d.len dc] 31) := by rw [← hW, Below.heap_alloc _ _ _ (by omega)]; exact heap_new _ _
  have hL : ∀ k, k < w.heap.size → W.heap[k]? = w.heap[k]? := fun k hk => by rw [← hW, Below.heap_alloc _ _ _ (by omega), Below.heap_alloc _ _ _ hk]
  have hS : W.heap.size = w.heap.size + 2 := by rw [← hW]; simp
  have c := fun j => cell_of_heap (j := j) hF
  have f : ∀ (j : Nat), W.frozen? ⟨w.heap.size + 1, j, none⟩ = false := by
    intro j
    simp [World.frozen?, hF]
  refine ⟨c 0, c 1, c 2, c 3, c 4, f 1, f 2, f 3, f 4, ⟨[.slice da d.len dc], ⟨rfl, .inr ⟨w.heap.size, 1, #[.slice da d.len dc], rfl, Nat.le_refl _, hR, Nat.le_refl _, by unfold maxLen; omega, rfl, rfl⟩⟩, ?_⟩, by simp [Value.ownBlock], World.ownsRow_nil _ _ _ _, by show w.heap.size + 1 < _; omega, hat.far (hL g hg), hg, by show w.heap.size ≤ w.heap.size + 1; omega, hA, hac, hacm, ⟨by show (0 : Nat) ≤ 2000; omega, by show (0 : Nat) ≤ 500; omega⟩, ?_⟩
  · exact ⟨da, dc, [], rfl, hV.mono (Nat.le_refl _) hL, hok, hbk, hlc, hdc, rfl⟩
  · show 0 ≤ ctxO ⟨#[]⟩
    decide
theorem nums_back (o : ByteArray) : strOfNums (o.data.toList.map fun b => (b.toNat : Int)) = o := by
  apply ByteArray.ext
  apply Array.ext'
  rw [strOfNums_data, List.map_map]
  have : ((fun n : Int => UInt8.ofNat n.toNat) ∘ fun b : UInt8 => (b.toNat : Int)) = id := by
    funext b
    simp
  rw [this, List.map_id]
theorem cells_nums (o : ByteArray) : Lib.strCells o = (o.data.toList.map fun b => (b.toNat : Int)).map (Value.int .u8) := by
  simp [Lib.strCells]
set_option maxRecDepth 100000 in
set_option maxHeartbeats 4000000 in
theorem b52 : PROKW 48 := by
  intro s nm way w da d dc hm hV hok hbk hlc hdc
  have Hc := hidS (fun o => c33L s (w.alloc o) hm)
  have HV := hidS hV
  have HO := hidS hok
  have HBK := hidS hbk
  have hdl : d.len ≤ maxLen := Nat.le_trans hlc hdc
  unfold maxLen at hdl
  clear hV hok hbk
  generalize hdd : d.len = dl at *
  have HDL := hidS hdd
  clear hdd
  go_enter Tryz.func48, Tryz.ntmps48
  go_wp2_with fail
  refine (Hc.out _).mono ?_
  clear Hc
  rintro e w1 ⟨hb1, v, x, y, rfl, hk, hor⟩
  have dcell : w1.cell? ⟨w.heap.size, 0, none⟩ = some (.slice da dl dc) := (hb1.cell (p := ⟨w.heap.size, 0, none⟩) (by show w.heap.size < _; simp)).trans (by simp)
  have hz1 : w.heap.size < w1.heap.size := by have := hb1.size; simp at this; omega
  have HB1 : Hid (Below w.heap.size w w1) := ((Below.refl _ _).alloc (Nat.le_refl _) _).trans (hb1.mono (by simp))
  clear hb1
  rcases hor with ⟨hx, rfl⟩ | ⟨rfl, g, ac, A, rfl, hs, hE, htw, hun, hat, hg1, hg2, hac, hacm, hA⟩
  · have HK := hidS (ren_err (nm := nm) (way := way) (d := d) ⟨y, hk, hx⟩)
    clear hk
    have hx2 : (x == 0) = false := by simp [hx]
    have hx3 : (x != 0) = true := by simp [hx]
    go_wp2
    go_ret2
    exact ⟨HB1.out, HK.out⟩
  · obtain ⟨ts, hT, hts6⟩ := tflat_ex s A hs hE w
    obtain ⟨hSrc, hkey, hmiss⟩ := src_of hT hs hun
    have HALL : Hid (∀ out x, RSpec ts nm way d out x → RenPost s nm way d (.returned (.tuple #[.string out, .int .i64 x]))) := fun out x h => ⟨out, x, rfl, .inr ⟨ts, A, hT, hs, hE, htw, hun, h⟩⟩
    have HPW : Hid (∀ x L, PWalk s nm x L → WSpec ts nm x L) := fun x L h => by
      rcases h with ⟨z, q1, q2, _⟩ | ⟨A', q1, q2, q3, q4, q5⟩
      · exact absurd (chkS_unique q1 hk).1 q2
      · have eA := ends_unique q2 hE
        cases eA
        exact q5 ts hT
    have HT := hidS hT
    have HSR := hidS hSrc
    have HKEY := hidS (hkey nm)
    have HMISS := hidS (hmiss nm)
    have HAT := hidS hat
    have hf := c71 s w1 g ac A.length A nm (Nat.le_refl _) hA hat
    rw [List.take_length] at hf
    have Hf := hidS hf
    clear hk hT hSrc hkey hmiss hE htw hun hat hf
    by_cases hway : way = 0 ∨ way = 1
    · cases hh : hitB nm A
      · have HS1 := hidS (HALL.out _ _ (.inr (.inl ⟨hway, HMISS.out hh, rfl, rfl⟩)))
        rw [hh] at Hf
        generalize idxA nm A 0 = IX at *
        rcases hway with rfl | rfl
        all_goals
          go_wp2_with (go_at_call 69; refine Hf.out.mono ?_; rintro e w' ⟨rfl, hw⟩; obtain rfl := hw.symm)
          go_ret2
          exact ⟨HB1.out, HS1.out⟩
      · obtain ⟨hfnd, hbod⟩ := HKEY.out hh
        have HBD := hidS hbod
        have hixl := hbod.lt
        rw [hh] at Hf
        clear HKEY HMISS hbod hh
        generalize idxA nm A 0 = IX at *
        rcases hway with rfl | rfl
        · go_wp2_with (go_at_call 69; refine Hf.out.mono ?_; rintro e w' ⟨rfl, hw⟩; obtain rfl := hw.symm)
          have hzb : w.heap.size < w1.heap.size := by omega
          have hwr := wr0 w1 s A g ac da d dc (DatV.mono HV.out (by omega) (fun q hq => HB1.out.block q hq)) HO.out HBK.out (by rw [HDL.out]; exact hlc) hdc HAT.out hg2 hA hac hacm
          rw [HDL.out] at hwr
          have hcall := bodW_all 500 _ ⟨w1.heap.size + 1, w1.heap.size, g, ac, s, A⟩ ts [d] pst0 (IX + 1) (bod ts (tno ts nm)) (by simp) (by simp) HSR.out HBD.out rfl ⟨_, _, _, _, hwr⟩
          change Calls Tryz.prog 74 #[.pointer (some ⟨w1.heap.size + 1, 0, none⟩), .int .i64 ((IX + 1 : Nat) : Int)] _ (WrPost ⟨w1.heap.size + 1, w1.heap.size, g, ac, s, A⟩ [d] (pagR ts nm true d) _) at hcall
          have hcast : ((IX + 1 : Nat) : Int) = (IX : Int) + 1 := by omega
          rw [hcast] at hcall
          have HEND : Hid (∀ out x, endS true (pagR ts nm true d) out x → RenPost s nm 0 d (.returned (.tuple #[.string out, .int .i64 x]))) := fun out x h => HALL.out out x (rspec_page HT.out hfnd (.inl rfl) h)
          have HBA : Hid (Below w.heap.size w ((w1.alloc (.cells #[.slice da dl dc] 31)).alloc (.cells #[.slice (some ⟨g, 0, none⟩) A.length ac, .slice (some ⟨w1.heap.size, 0, none⟩) 1 1, .slice none 0 0, .int .i64 0, .int .i64 0] 114))) := (HB1.out.alloc (by omega) _).alloc (by simp; omega) _
          have hpa := hwr.lt
          have Hcall := hidS hcall
          clear hcall hwr hcast
          generalize pagR ts nm true d = S at *
          generalize (w1.alloc (.cells #[.slice da dl dc] 31)).alloc (.cells #[.slice (some ⟨g, 0, none⟩) A.length ac, .slice (some ⟨w1.heap.size, 0, none⟩) 1 1, .slice none 0 0, .int .i64 0, .int .i64 0] 114) = wa at *
          refine Hcall.out.mono ?_
          rintro e w3 ⟨rfl, h3, hc3⟩
          have HB3 : Hid (Below w.heap.size w w3) := HBA.out.trans (hc3.below hpa (by show w1.heap.size ≤ w1.heap.size + 1; omega) w.heap.size (by show w.heap.size ≤ w1.heap.size; omega))
          by_cases he : S.err = 0
          · obtain ⟨ra, rc, oa, oc, hC⟩ := h3 he
            have c2 : w3.cell? ⟨w1.heap.size + 1, 2, none⟩ = some (.slice oa S.out.size oc) := hC.c2
            have c3 : w3.cell? ⟨w1.heap.size + 1, 3, none⟩ = some (.int .i64 (ctxO S.out)) := hC.c3
            have hO := hC.ownO
            have hpl : w1.heap.size + 1 < w3.heap.size := hC.lt
            rw [cells_nums] at hO
            have kc := cv_own w3 _ _ _ _ hO
            rw [nums_back] at kc
            rw [he]
            clear h3 hc3 Hcall hO hC
            by_cases hx : ctxO S.out = 0
            · have HR := hidS (HEND.out _ _ (.inr (.inr ⟨he, fun _ => hx, rfl, rfl⟩)))
              rw [hx] at c3
              go_wp2
              go_ret2
              exact ⟨HB3.out, HR.out⟩
            · have HR := hidS (HEND.out _ _ (.inr (.inl ⟨he, rfl, hx, rfl, rfl⟩)))
              have hx2 : (ctxO S.out != 0) = true := by simpa using hx
              generalize ctxO S.out = cx at *
              go_wp2
              go_ret2
              exact ⟨HB3.out, HR.out⟩
          · have HR := hidS (HEND.out _ _ (.inl ⟨he, rfl, rfl⟩))
            have he2 : (S.err != 0) = true := by simpa using he
            clear h3 hc3 Hcall
            go_wp2
            go_ret2
            exact ⟨HB3.out, HR.out⟩
        · have Hw := hidS (p48 s nm w1 hm)
          go_wp2_with (go_at_call 69; refine Hf.out.mono ?_; rintro e w' ⟨rfl, hw⟩; obtain rfl := hw.symm)
          refine Hw.out.mono ?_
          rintro e w2 ⟨hb2, a2, c2', x2, L2, rfl, _, hL2, hpw⟩
          have hws := HPW.out _ _ hpw
          have HB2 : Hid (Below w.heap.size w w2) := HB1.out.trans (hb2.mono (by omega))
          have hz2 : w1.heap.size ≤ w2.heap.size := hb2.size
          have HAT2 : Hid (AkAt s w2 g A) := HAT.out.far (hb2.block g hg2)
          have hg3 : g < w2.heap.size := by omega
          have dcell2 : w2.cell? ⟨w.heap.size, 0, none⟩ = some (.slice da dl dc) := (hb2.cell (p := ⟨w.heap.size, 0, none⟩) hz1).trans dcell
          clear Hw hb2 hpw dcell
          generalize L2.length = ll at *
          rcases hws with ⟨q1, _⟩ | ⟨_, ⟨q1, rfl, _⟩ | ⟨q1, rfl, _⟩⟩
          · omega
          · have HS1 := hidS (HALL.out _ _ (.inr (.inr (.inl ⟨hfnd, rfl, q1, rfl, rfl⟩))))
            go_wp2
            go_ret2
            exact ⟨HB2.out, HS1.out⟩
          · go_wp2_with fail
            have hzb : w.heap.size < w2.heap.size := by omega
            have hwr := wr0 w2 s A g ac da d dc (DatV.mono HV.out (by omega) (fun q hq => HB2.out.block q hq)) HO.out HBK.out (by rw [HDL.out]; exact hlc) hdc HAT2.out hg3 hA hac hacm
            rw [HDL.out] at hwr
            have hcall := bodW_all 500 _ ⟨w2.heap.size + 1, w2.heap.size, g, ac, s, A⟩ ts [d] pst0 (IX + 1) (bod ts (tno ts nm)) (by simp) (by simp) HSR.out HBD.out rfl ⟨_, _, _, _, hwr⟩
            change Calls Tryz.prog 74 #[.pointer (some ⟨w2.heap.size + 1, 0, none⟩), .int .i64 ((IX + 1 : Nat) : Int)] _ (WrPost ⟨w2.heap.size + 1, w2.heap.size, g, ac, s, A⟩ [d] (pagR ts nm true d) _) at hcall
            have hcast : ((IX + 1 : Nat) : Int) = (IX : Int) + 1 := by omega
            rw [hcast] at hcall
            have HEND : Hid (∀ out x, endS true (pagR ts nm true d) out x → RenPost s nm 1 d (.returned (.tuple #[.string out, .int .i64 x]))) := fun out x h => HALL.out out x (rspec_page HT.out hfnd (.inr ⟨rfl, q1⟩) h)
            have HBA : Hid (Below w.heap.size w ((w2.alloc (.cells #[.slice da dl dc] 31)).alloc (.cells #[.slice (some ⟨g, 0, none⟩) A.length ac, .slice (some ⟨w2.heap.size, 0, none⟩) 1 1, .slice none 0 0, .int .i64 0, .int .i64 0] 114))) := (HB2.out.alloc (by omega) _).alloc (by simp; omega) _
            have hpa := hwr.lt
            have Hcall := hidS hcall
            clear hcall hwr hcast
            generalize pagR ts nm true d = S at *
            generalize (w2.alloc (.cells #[.slice da dl dc] 31)).alloc (.cells #[.slice (some ⟨g, 0, none⟩) A.length ac, .slice (some ⟨w2.heap.size, 0, none⟩) 1 1, .slice none 0 0, .int .i64 0, .int .i64 0] 114) = wa at *
            refine Hcall.out.mono ?_
            rintro e w3 ⟨rfl, h3, hc3⟩
            have HB3 : Hid (Below w.heap.size w w3) := HBA.out.trans (hc3.below hpa (by show w2.heap.size ≤ w2.heap.size + 1; omega) w.heap.size (by show w.heap.size ≤ w2.heap.size; omega))
            by_cases he : S.err = 0
            · obtain ⟨ra, rc, oa, oc, hC⟩ := h3 he
              have c2 : w3.cell? ⟨w2.heap.size + 1, 2, none⟩ = some (.slice oa S.out.size oc) := hC.c2
              have c3 : w3.cell? ⟨w2.heap.size + 1, 3, none⟩ = some (.int .i64 (ctxO S.out)) := hC.c3
              have hO := hC.ownO
              have hpl : w2.heap.size + 1 < w3.heap.size := hC.lt
              rw [cells_nums] at hO
              have kc := cv_own w3 _ _ _ _ hO
              rw [nums_back] at kc
              rw [he]
              clear h3 hc3 Hcall hO hC
              by_cases hx : ctxO S.out = 0
              · have HR := hidS (HEND.out _ _ (.inr (.inr ⟨he, fun _ => hx, rfl, rfl⟩)))
                rw [hx] at c3
                go_wp2
                go_ret2
                exact ⟨HB3.out, HR.out⟩
              · have HR := hidS (HEND.out _ _ (.inr (.inl ⟨he, rfl, hx, rfl, rfl⟩)))
                have hx2 : (ctxO S.out != 0) = true := by simpa using hx
                generalize ctxO S.out = cx at *
                go_wp2
                go_ret2
                exact ⟨HB3.out, HR.out⟩
            · have HR := hidS (HEND.out _ _ (.inl ⟨he, rfl, rfl⟩))
              have he2 : (S.err != 0) = true := by simpa using he
              clear h3 hc3 Hcall
              go_wp2
              go_ret2
              exact ⟨HB3.out, HR.out⟩
    · have h0 : (way != 0) = true := by simp; omega
      have h1 : (way != 1) = true := by simp; omega
      have HS1 := hidS (HALL.out _ _ (.inl ⟨by omega, by omega, rfl, rfl⟩))
      clear hway
      go_wp2
      go_ret2
      exact ⟨HB1.out, HS1.out⟩
set_option maxHeartbeats 1000000 in
theorem b30w : PROKW 26 := by
  intro s nm way w da d dc hm hV hok hbk hlc hdc
  have Hc := hidS (fun o => b52 s nm way (w.alloc o) da d dc hm (DatV.mono hV (by simp) (fun q hq => Below.heap_alloc _ _ _ hq)) hok hbk hlc hdc)
  have Hc2 := hidS (b52 s nm way w da d dc hm hV hok hbk hlc hdc)
  clear hV hok hbk
  generalize d.len = dl at *
  go_enter Tryz.func26, Tryz.ntmps26
  go_wp2_with fail
  first
    | refine (Hc.out _).mono ?_
    | refine Hc2.out.mono ?_
  rintro e w1 ⟨hb, out, x, rfl, hp⟩
  have HB : Hid (Below w.heap.size w w1) := by first | exact hb | exact ((Below.refl _ _).alloc (Nat.le_refl _) _).trans (hb.mono (by simp))
  have HP := hidS hp
  clear hp hb
  go_wp2
  go_ret2
  exact ⟨HB.out, out, x, rfl, HP.out⟩
theorem b30 : PROK 26 := b30w.small
end Go.Proofs.YtffkejkgkgfnhabGreat
namespace Go.Proofs.YtffkejkgkgfnhabGreat
open Go.ChangeShapes Go.WideShapes Go.ChangeAt Go.RowKit Go.Deep
set_option linter.unusedVariables false
theorem small_all {H : Type} (x : DataW H) (hk : Rows.uptoSmall H [x] = true) : Rows.uptoBulk x ≤ 1048576 := by
  have h := of_decide_eq_true hk
  simp only [Rows.uptoBulkAll] at h
  omega
end Go.Proofs.YtffkejkgkgfnhabGreat
namespace Go.Proofs.YtffkejkgkgfnhabGreat
open Go.ChangeShapes Go.WideShapes Go.ChangeAt Go.RowKit Go.Deep
set_option linter.unusedVariables false
set_option maxHeartbeats 400000 in
theorem v3 (a : Option Addr) (len cap : Nat) (w : World) (hlen : len ≤ 1048576) (h : IsOpsD w a len) :
    Calls Tryz.prog 3 #[.slice a len cap] w fun e w' => e = .returned (.bool true) ∧ Below w.heap.size w w' := by
  have H := hidS (u7ops p25 b30 1 5 (by decide) (by decide) w a len cap hlen h)
  clear h
  go_enter Tryz.func3, Tryz.ntmps3
  go_wp2_with fail
  refine H.out.mono ?_
  rintro e w' ⟨rfl, hb⟩
  go_wp2
  go_ret
  exact ⟨rfl, hb⟩
set_option maxRecDepth 100000 in
theorem liftedA (os : Os) (started : os.Started) (H : Type) (enc : TypeId × Value → H) (F : Stop.Interp) :
    ReturnsInHanded {} Tryz.checked os 3 .any ((Rows.OpenSpec.upto Rows.allSpec).pre6 enc Tryz.prog Tryz.f3 Rows.allUptoRow.domain false) (((Rows.OpenSpec.upto Rows.allSpec).at F).post enc Tryz.prog Tryz.f3 false true false false) := by
  refine returnsInHanded_of_cond (C := Tryz.checked) (s := Rows.OpenSpec.upto Rows.allSpec) (k := Rows.uptoSmall) rfl own7 started (by kernel_rfl) Tryz.func3
    (OpenSpec.witness (enc := enc) (C := Tryz.checked) (s := Rows.OpenSpec.upto Rows.allSpec) (k := Rows.uptoSmall) rfl false ⟨#[], #[.slice none 0 0], []⟩ 8 (by kernel_rfl) (by kernel_rfl) (by kernel_rfl)
      (x := ([.nil], [], [])) (by kernel_rfl) rfl (by kernel_rfl)) ?_
  intro W base args ds gs before hval0 hW _ hk _
  have hval : ∀ (j : Nat) t v, Tryz.f3.params[j]? = some t → args[j]? = some v → Value.okWide Tryz.prog W .any base t v := hval0
  have hW' := hW
  obtain ⟨p, q, hA0, hV, rfl, hfz, hnd⟩ := hW
  have hA : DataW.TrodAll enc Tryz.prog W 0 (fun _ => true) true Tryz.f3.params.toList args.toList ds p := hA0
  rw [Tryz.params3] at hA hval
  obtain ⟨v0, vs0, d0, ds0, p0, q0, hargs, rfl, rfl, h0, r0⟩ := trodAll_cons hA
  obtain ⟨rfl, rfl, rfl⟩ := trodAll_nil r0
  obtain rfl : args = #[v0] := by cases args; simp_all
  obtain ⟨rfl, rfl⟩ := trodVars_none hV
  obtain ⟨a0, len0, cap0, rfl⟩ := okWide_slice Tryz.underlying22 (hval 0 22 v0 rfl rfl)
  have k0 := h0
  have lt0 : ∀ x ∈ p0, x.block < W.heap.size := by obtain ⟨m, hm⟩ := k0; exact DataW.trod_lt m _ _ _ hm
  obtain ⟨hlen, hops⟩ : len0 ≤ 1048576 ∧ IsOpsD W a0 len0 := by
    obtain ⟨fuel, hf⟩ := h0
    refine ⟨?_, open_opsD (small_all d0 hk) hf⟩
    rcases open_len hf with h3 | ⟨elems, spare, h3, h4⟩
    · omega
    · rw [← h4]; exact small_len d0 hk elems spare h3
  clear hA0 hval0
  refine (v3 a0 len0 cap0 W hlen hops).mono fun e W' ⟨he, bel⟩ => ?_
  subst he
  exact ⟨_, rfl, _, _, _, [], _, [], hW', trodAll_mk1 (shut_bool Tryz.underlying4 _), (trodAll_cons_mk (Below.trod laid7 (by kernel_rfl) (of_decide_eq_true (by kernel_rfl)) k0 bel lt0) trodAll_mk0), rfl, bel.frame _, fun h => by cases h⟩
theorem overA : Rows.allUptoRow.holds Tryz.pinned (Rows.OpenSpec.upto Rows.allSpec) :=
  OpenClaim.holds_of_cond 3 Tryz.f3 rfl rfl rfl rfl rfl rfl rfl ⟨rfl, rfl, rfl, rfl, rfl⟩ rfl rfl rfl rfl rfl (by kernel_rfl) Tryz.func3 (by kernel_rfl)
    (of_decide_eq_true (by kernel_rfl)) (by unfold Func.isWrapper; first | (rw [if_pos (by decide +kernel)]; kernel_rfl) | (rw [if_neg (by decide +kernel)]; exact ⟨rfl, rfl⟩))
    (fun os started H enc _ F => liftedA os started H enc F)
theorem all_proved : Rows.AllUptoSaid := overA
end Go.Proofs.YtffkejkgkgfnhabGreat
