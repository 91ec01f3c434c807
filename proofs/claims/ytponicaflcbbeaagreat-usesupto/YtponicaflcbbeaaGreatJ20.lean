import Derived.Test.YtponicaflcbbeaaGreatJ19
import Derived.Test.YtponicaflcbbeaaGreatJ12
import Derived.Deep.RegionHeld3
import Derived.Test.YtponicaflcbbeaaGreatJ13
namespace Go.Proofs.YtponicaflcbbeaaGreat
open Go.RowKit
set_option linter.unusedVariables false
def zV : Value := .agg (Array.replicate 24 (.bool false))
def zA (n : Nat) : Array Value := madeCells zV.cells (n * 24)
theorem infoArr : (Tryz.prog.info? 129).map (fun i => (i.zero, i.size, i.bytes)) = some (some zV, 24, 24) := by kernel_rfl
theorem make107 (w : World) (n : Nat) (hn : n ≤ 1000) : (Instr.makeSlice 107 (.int .i64 n) (.int .i64 n)).run Tryz.prog w = .ok (.slice (some ⟨w.heap.size, 0, none⟩) n n) (w.alloc (.cells (zA n) 129)) := by
  obtain ⟨i0, hi, hz0, hz1, hz2⟩ := info_parts infoArr
  have := run_make (P := Tryz.prog) w 107 129 i0 zV Tryz.underlying107 hi hz0 .i64 .i64 n n (by omega) (by omega) (by rw [hz2]; omega) (by omega)
  rw [hz1] at this
  simpa [zA] using this
theorem zA_at (n k : Nat) (h : k < n * 24) : (zA n)[k]? = some (.bool false) := by
  have e : zV.cells = Array.replicate 24 (.bool false) := by rfl
  have : k % 24 < 24 := Nat.mod_lt _ (by decide)
  unfold zA
  rw [e]
  simp [madeCells, h, this]
theorem tflat_ex (s : ByteArray) (A : List Ak) (hs : s.size ≤ 400) (hE : Ends s init (.fin A)) (w : World) : ∃ ts, TFlat s ts A s.size ∧ ts.length ≤ 6 := by
  obtain ⟨e, w', fr, ⟨hb, hor⟩, _⟩ := (c31 s w hs) []
  rcases hor with ⟨er, _, h⟩ | ⟨a, c, ts, A', hT, h, hl, _⟩
  · have := ends_unique hE h; cases this
  · have := ends_unique hE h; cases this; exact ⟨ts, hT, hl⟩
theorem fk0 (s : ByteArray) (A : List Ak) (w : World) (g ac : Nat) (Z0 : Array Value) (hA : A.length ≤ 1000) (hat : AkAt s w g A) (hg : g < w.heap.size) (hZ : ∀ k, k < A.length * 24 → Z0[k]? = some (.bool false)) :
    FkOK s A ((w.alloc (.cells Z0 129)).alloc (.cells #[.slice (some ⟨g, 0, none⟩) A.length ac, .slice none 0 0, .slice (some ⟨w.heap.size, 0, none⟩) A.length A.length, .bool false] 110)) ⟨w.heap.size + 1, g, ac, w.heap.size, A.length, w.heap.size + 2⟩ none 0 ⟨[], fun _ _ => false, false⟩ := by
  have s1 : (w.alloc (.cells Z0 129)).heap.size = w.heap.size + 1 := by simp
  have hF := heap_new (w.alloc (.cells Z0 129)) (.cells #[.slice (some ⟨g, 0, none⟩) A.length ac, .slice none 0 0, .slice (some ⟨w.heap.size, 0, none⟩) A.length A.length, .bool false] 110)
  rw [s1] at hF
  generalize hW : (w.alloc (.cells Z0 129)).alloc (.cells #[.slice (some ⟨g, 0, none⟩) A.length ac, .slice none 0 0, .slice (some ⟨w.heap.size, 0, none⟩) A.length A.length, .bool false] 110) = W at *
  have hC : W.heap[w.heap.size]? = some (.cells Z0 129) := by rw [← hW, Below.heap_alloc _ _ _ (by omega)]; exact heap_new _ _
  have hG : W.heap[g]? = w.heap[g]? := by rw [← hW, Below.heap_alloc _ _ _ (by omega), Below.heap_alloc _ _ _ hg]
  have hS : W.heap.size = w.heap.size + 2 := by rw [← hW]; simp
  have c := fun j => cell_of_heap (j := j) hF
  have f : ∀ {g : Nat} {cur : Array Value} {ty : Nat} (j : Nat), W.heap[g]? = some (.cells cur ty (0, 0)) → W.frozen? ⟨g, j, none⟩ = false := by
    intro g cur ty j h
    simp [World.frozen?, h]
  refine ⟨c 0, c 1, c 2, c 3, f 1 hF, f 3 hF, World.ownsRow_nil _ _ _ _, hat.far hG, fun i hi k hk => ⟨(cell_of_heap hC).trans (hZ _ (by omega)), f _ hC⟩, by show w.heap.size + 1 ≠ g; omega, by show w.heap.size + 1 ≠ w.heap.size; omega, by show g ≠ w.heap.size; omega, by show w.heap.size + 1 < w.heap.size + 2; omega, by show g < w.heap.size + 2; omega, by show w.heap.size < w.heap.size + 2; omega, by show w.heap.size + 2 ≤ W.heap.size; omega, hA⟩
theorem Fr.below {f : Fp} {w w' : World} {n : Nat} (h : Fr f w w') (h0 : n ≤ f.F) (h1 : n ≤ f.cg) (h2 : n ≤ f.B) : Below n w w' :=
  ⟨h.os, h.tape, h.output, h.size, fun k hk => h.block k (by omega) (by omega) (by omega)⟩
theorem good_of {s : ByteArray} {A : List Ak} (hs : s.size ≤ 400) (hun : unA (seenB (names A)) A < 0) (nm : ByteArray) (hhit : hitB nm A = true) (ts : List Tm) (hT : TFlat s ts A s.size) : ∃ β, Good s A (idxA nm A 0) ts β (tno ts nm) ∧ 0 ≤ fndF nm ts 0 := by
  obtain ⟨β, hβ⟩ := hT.places
  have e3 : hasF ts = seenB (names A) := funext hT.has
  have hf : 0 ≤ fndF nm ts 0 := by
    have : hasF ts nm = true := by rw [e3]; exact hhit
    simpa [hasF] using this
  have hw := hT.wf hs (by rw [hT.un ts, e3]; exact hun)
  have := fndF_range nm ts 0
  exact ⟨β, ⟨hβ, fun i hi => (hw i hi).1, by unfold tno; omega, (hβ.find nm hf).2.symm⟩, hf⟩
theorem miss_of {s : ByteArray} {A : List Ak} (nm : ByteArray) (hhit : hitB nm A = false) (ts : List Tm) (hT : TFlat s ts A s.size) : WSpec ts nm 4 [] := by
  have e3 : hasF ts = seenB (names A) := funext hT.has
  have : hasF ts nm = false := by rw [e3]; exact hhit
  refine .inl ⟨?_, rfl, rfl⟩
  simpa [hasF] using this
theorem pw_nil (s nm : ByteArray) (w w' : World) (x : Int) (h : PWalk s nm x []) : PWPost s nm w (.returned (.tuple #[.slice none 0 0, .int .i64 x])) w' :=
  ⟨none, 0, x, [], rfl, World.ownsRow_nil _ _ _ _, by simp, h⟩
set_option maxRecDepth 100000 in
set_option maxHeartbeats 4000000 in
theorem p48 : PWOK 48 := by
  intro s nm w hm
  have Hc := hidS (c33L s w hm)
  go_enter Tryz.func48, Tryz.ntmps48
  go_wp2_with fail
  refine Hc.out.mono ?_
  clear Hc
  rintro e w1 ⟨hb1, v, x, y, rfl, hk, hor⟩
  rcases hor with ⟨hx, rfl⟩ | ⟨rfl, g, ac, A, rfl, hs, hE, htw, hun, hat, hg1, hg2, hac, hacm, hA⟩
  · have HK : Hid (PWalk s nm x []) := .inl ⟨y, hk, hx, rfl⟩
    clear hk
    have hx2 : (x == 0) = false := by simp [hx]
    go_wp2
    go_ret2
    exact ⟨hb1, pw_nil s nm w w1 x HK.out⟩
  · have HE := hidS hE
    have HTW := hidS htw
    have HUN := hidS hun
    have HAT := hidS hat
    have Hf := hidS (c71 s w1 g ac A.length A nm (Nat.le_refl _) hA hat)
    rw [List.take_length] at Hf
    have HR := hidS (ris_ends hE)
    clear hE htw hun hat hk
    go_wp2_with fail
    refine Hf.out.mono ?_
    rintro e w2 ⟨rfl, hw⟩
    obtain rfl := hw.symm
    clear Hf
    cases hh : hitB nm A
    · have HK : Hid (PWalk s nm 4 []) := .inr ⟨A, hs, HE.out, HTW.out, HUN.out, fun ts hT => miss_of nm hh ts hT⟩
      generalize idxA nm A 0 = IX at *
      go_wp2
      go_ret2
      exact ⟨hb1, pw_nil s nm w w1 4 HK.out⟩
    · have hix : idxA nm A 0 ≤ 1000 := by have := idx_le nm A 0; omega
      have HEX : Hid (∃ ts β t0, Good s A (idxA nm A 0) ts β t0) := by
        obtain ⟨ts, hT, _⟩ := tflat_ex s A hs HE.out w
        obtain ⟨β, hG, _⟩ := good_of hs HUN.out nm hh ts hT
        exact ⟨ts, β, _, hG⟩
      have HBAD : Hid ((∀ ts β t0, Good s A (idxA nm A 0) ts β t0 → TBad ts t0) → PWalk s nm 6 []) := fun hq => .inr ⟨A, hs, HE.out, HTW.out, HUN.out, fun ts hT => by
        obtain ⟨β, hG, h0⟩ := good_of hs HUN.out nm hh ts hT
        exact .inr ⟨h0, .inl ⟨hq ts β _ hG, rfl, rfl⟩⟩⟩
      have HOK : Hid (∀ fs', (∀ ts β t0, Good s A (idxA nm A 0) ts β t0 → RInv s A ts β t0 fs'.gs.length fs') → fs'.grew = false → PWalk s nm 0 (usA A fs'.cm (A.length * 24))) := fun fs' hq hn => .inr ⟨A, hs, HE.out, HTW.out, HUN.out, fun ts hT => by
        obtain ⟨β, hG, h0⟩ := good_of hs HUN.out nm hh ts hT
        obtain ⟨q1, q2⟩ := usA_list hG HR.out (hq ts β _ hG) hn
        exact .inr ⟨h0, .inr ⟨q1, rfl, q2⟩⟩⟩
      have HI : Hid (∀ ts β t0, Good s A (idxA nm A 0) ts β t0 → FInv s A ts β t0 ⟨[⟨idxA nm A 0, 0, -1⟩], fun _ _ => false, true⟩) := fun ts β t0 hG => by
        rw [← hG.beg]; exact finv0 s A ts β t0 hG.plc hG.lt
      have hRL := ris_len HR.out
      clear HE HTW HUN hh HR
      generalize idxA nm A 0 = IX at *
      have M1 := fun wx : World => make107 wx A.length hA
      have HZ := hidS (zA_at A.length)
      generalize zA A.length = Z0 at *
      have hsz := hb1.size
      have hf0 := fk0 s A w1 g ac Z0 hA HAT.out hg2 HZ.out
      have hb2 : Below w.heap.size w ((w1.alloc (.cells Z0 129)).alloc (.cells #[.slice (some ⟨g, 0, none⟩) A.length ac, .slice none 0 0, .slice (some ⟨w1.heap.size, 0, none⟩) A.length A.length, .bool false] 110)) := (hb1.alloc (by omega) _).alloc (by simp; omega) _
      go_wp2_with fail
      generalize hW : (w1.alloc (.cells Z0 129)).alloc (.cells #[.slice (some ⟨g, 0, none⟩) A.length ac, .slice none 0 0, .slice (some ⟨w1.heap.size, 0, none⟩) A.length A.length, .bool false] 110) = W at *
      clear hW M1 HZ HAT
      obtain ⟨f, hf, e1, e2, e3⟩ : ∃ f : Fp, f = ⟨w1.heap.size + 1, g, ac, w1.heap.size, A.length, w1.heap.size + 2⟩ ∧ f.F = w1.heap.size + 1 ∧ w.heap.size ≤ f.cg ∧ w.heap.size ≤ f.B := ⟨_, rfl, rfl, hsz, by show _ ≤ w1.heap.size + 2; omega⟩
      rw [← hf] at hf0
      rw [← e1]
      have hF : w.heap.size ≤ f.F := by omega
      have Hmt := hidS (p72 s A W f none 0 ⟨[], fun _ _ => false, false⟩ IX 0 hix (by decide) (by simp) hf0)
      have HK0 := hidS hf0
      clear hf hf0 e1
      refine Hmt.out.mono ?_
      rintro e W2 ⟨rfl, hfo⟩
      clear Hmt
      change FOut s A f none 0 0 W W2 ⟨[⟨IX, 0, -1⟩], fun _ _ => false, true⟩ at hfo
      have hfr2 := Fr.of_chg HK0.out hfo.1
      obtain ⟨_, ga, gc, hk2, _⟩ := hfo
      have hb3 : Below w.heap.size w W2 := hb2.trans (hfr2.below hF e2 e3)
      have Hfa := hidS (p73 s A IX HEX.out W2 f ga gc _ hs hk2 HI.out rfl)
      clear hk2 hfr2 HK0 hb2 HI HEX
      go_wp2_with fail
      refine Hfa.out.mono ?_
      rintro e W3 ⟨hfr3, hor⟩
      have hb4 : Below w.heap.size w W3 := hb3.trans (hfr3.below hF e2 e3)
      clear Hfa hfr3 hb3
      rcases hor with ⟨hbad, rfl⟩ | ⟨fs', ga', gc', rfl, hk3, hri, hgr⟩
      · have HF := hidS (HBAD.out hbad)
        clear hbad HBAD HOK
        go_wp2
        go_ret2
        exact ⟨hb4, pw_nil s nm w W3 6 HF.out⟩
      · have HF := hidS (HOK.out fs' hri hgr)
        have Hus := hidS (p74 s A W3 f ga' gc' fs' hk3)
        have hul := usA_len A fs'.cm (A.length * 24)
        clear hri hgr hk3 HOK HBAD
        unfold UsPost at Hus
        generalize usA A fs'.cm (A.length * 24) = LL at *
        go_wp2_with fail
        refine Hus.out.mono ?_
        rintro e W4 ⟨hb5, a, c, rfl, hown⟩
        have HO := hidS hown
        have hb6 : Below w.heap.size w W4 := hb4.trans (hb5.mono hb4.size)
        have hs4 := hb4.size
        clear Hus hown
        go_wp2
        go_ret2
        exact ⟨hb6, a, c, 0, LL, rfl, own_base HO.out hs4, by omega, HF.out⟩
set_option maxHeartbeats 1000000 in
theorem p25 : PWOK 25 := by
  intro s nm w hm
  have Hc := hidS (p48 s nm w hm)
  go_enter Tryz.func25, Tryz.ntmps25
  go_wp2_with fail
  refine Hc.out.mono ?_
  clear Hc
  rintro e w1 ⟨hb, a, c, x, L, rfl, ho, hl, hp⟩
  have HO := hidS ho
  have HP := hidS hp
  clear ho hp
  go_wp2
  go_ret2
  exact ⟨hb, a, c, x, L, rfl, HO.out, hl, HP.out⟩
end Go.Proofs.YtponicaflcbbeaaGreat
namespace Go.Proofs.YtponicaflcbbeaaGreat
theorem uses_proved : Rows.UsesUptoSaid := uses_of p25
end Go.Proofs.YtponicaflcbbeaaGreat
