import Derived.Test.YtffkejkgkgfnhaaGreatG35
import Derived.Test.YtffkejkgkgfnhaaGreatG40
import Derived.Test.YtffkejkgkgfnhaaGreatG21
import Derived.Test.YtffkejkgkgfnhaaGreatG44
import Derived.Test.YtffkejkgkgfnhaaGreatG39
import Derived.Test.YtffkejkgkgfnhaaGreatG29
import Derived.Test.YtffkejkgkgfnhaaGreatG22
namespace Go.Proofs.YtffkejkgkgfnhaaGreat
open Go.RowKit
set_option linter.unusedVariables false
def N11 (st : Pst) : Prop := st.err ≠ 11
theorem txtF_11 (tr : Bool) (l : List UInt8) (st : Pst) (h : N11 st) : N11 (txtF tr l st) := by
  induction l generalizing st with
  | nil => exact h
  | cons b r ih =>
    simp only [txtF]
    (repeat' split)
    · simp [N11]
    · simp [N11]
    · exact ih _ h
theorem holF_11 (t : ByteArray) (st : Pst) (h : N11 st) : N11 (holF t st) := by
  unfold holF
  (repeat' split) <;> first | exact h | simp [N11]
def B11 (B : Nds → List Dat → Pst → Pst) : Prop := ∀ b R st, N11 st → N11 (B b R st)
theorem lopF_11 (B : Nds → List Dat → Pst → Pst) (th : Nds) (R : List Dat) (hB : B11 B) : ∀ (d : Dat) (st : Pst), N11 st → N11 (lopF B th R d st)
  | .nil, st, h => h
  | .fld _ _ _ _ _, st, h => h
  | .row f r, st, h => by
    simp only [lopF]
    split
    · exact h
    · split
      · simp [N11]
      · exact lopF_11 B th R hB r _ (hB _ _ _ h)
theorem pceF_11 (B : Nds → List Dat → Pst → Pst) (ts : List Tm) (R : List Dat) (hB : B11 B) (k : Int) (nm : ByteArray) (th el : Nds) (st : Pst) (h : N11 st) : N11 (pceF B ts R k nm th el st) := by
  unfold pceF
  split
  · simp [N11]
  · have h' : N11 { st with steps := st.steps + 1 } := h
    unfold insF
    split
    · exact hB _ _ _ h'
    · split
      · simp [N11]
      · unfold fldF
        split
        · split
          · simp [N11]
          · exact holF_11 _ _ h'
        · split
          · split
            · exact hB _ _ _ h'
            · exact hB _ _ _ h'
          · split
            · split
              · exact lopF_11 B th R hB _ _ h'
              · simp [N11]
            · exact h'
theorem bdyF_11 (B : Nds → List Dat → Pst → Pst) (ts : List Tm) (tr : Bool) (R : List Dat) (hB : B11 B) : ∀ (b : Nds) (st : Pst), N11 st → N11 (bdyF B ts tr R b st)
  | .nil, st, h => h
  | .cons k a nm th el tw r, st, h => by
    simp only [bdyF]
    split
    · exact h
    · refine bdyF_11 B ts tr R hB r _ ?_
      split
      · exact txtF_11 _ _ _ h
      · exact pceF_11 B ts R hB k nm th el st h
theorem pagF_11 (ts : List Tm) (tr : Bool) (n : Nat) : B11 (pagF ts tr n) := by
  induction n with
  | zero => intro b R st h; exact bdyF_11 _ ts tr R (fun _ _ _ h => h) b st h
  | succ n ih => intro b R st h; exact bdyF_11 _ ts tr R ih b st h
theorem pagR_11 (ts : List Tm) (nm : ByteArray) (tr : Bool) (d : Dat) : (pagR ts nm tr d).err ≠ 11 := pagF_11 ts tr 500 _ _ _ (by simp [N11, pst0])
theorem Flat.nde {s : ByteArray} {d p e : Nat} {b : Nds} {A : List Ak} (h : Flat s d b p A e) : NdE b := by
  induction h with
  | nil => trivial
  | text _ _ ih => exact ⟨.inl rfl, fun _ => rfl, trivial, trivial, ih⟩
  | hole _ _ ih => exact ⟨.inr (.inl rfl), fun _ => rfl, trivial, trivial, ih⟩
  | call _ _ ih => exact ⟨.inr (.inr (.inr (.inr rfl))), fun _ => rfl, trivial, trivial, ih⟩
  | loop _ _ _ _ _ ih1 ih => exact ⟨.inr (.inr (.inr (.inl rfl))), fun _ => rfl, ih1, trivial, ih⟩
  | one _ _ _ _ _ ih1 ih => exact ⟨.inr (.inr (.inl rfl)), fun _ => rfl, ih1, trivial, ih⟩
  | two _ _ _ _ _ _ _ ih1 ih2 ih => exact ⟨.inr (.inr (.inl rfl)), (fun h => by cases h), ih1, ih2, ih⟩
theorem TFlat.nde {s : ByteArray} {ts : List Tm} {A : List Ak} {p : Nat} (h : TFlat s ts A p) (t : Nat) : NdE (bod ts t) := by
  by_cases ht : t < ts.length
  · rw [bod_at t ht]
    obtain ⟨q, B, e, hf, _⟩ := h.flats ts[t] (List.getElem_mem ht)
    exact hf.nde
  · have : bod ts t = .nil := by simp [bod, List.getElem?_eq_none (by omega : ts.length ≤ t)]
    rw [this]; trivial
theorem page_ways {s : ByteArray} {ts : List Tm} {A : List Ak} {p : Nat} (h : TFlat s ts A p) (nm : ByteArray) (d : Dat) (hb : ¬ TBad ts (tno ts nm)) :
    pagR ts nm true d = pagR ts nm false d ∧ (pagR ts nm true d).err ≠ 9 ∧ (pagR ts nm true d).err ≠ 10 ∧ ((pagR ts nm true d).err = 0 → ctxO (pagR ts nm true d).out = 0) := by
  have cl := true_closed ts (tno ts nm)
  have W : Wld ts (tno ts nm) (Bs ts (tno ts nm)) (Es ts (tno ts nm)) := ⟨cl, fun t x hB q => hb (.inl ⟨t, x, hB, q⟩), fun t => h.nde t⟩
  obtain ⟨k1, k2, k3, k4⟩ := way_all W 500 (bod ts (tno ts nm)) (one 0) [d] pst0 (by simp) (h.nde _) (W.good _ _ cl.start) (fun t x q => cl.calls _ _ t x cl.start q) rfl ⟨0, rfl, rfl⟩
  refine ⟨k1, k2, k3, fun e => ?_⟩
  obtain ⟨y, q1, q2⟩ := k4 e
  have hE := cl.ends _ _ _ cl.start q2
  by_cases hy : y = 0
  · subst hy; exact q1
  · exact absurd (.inr ⟨y, hy, hE⟩) hb
theorem chkS_range {s : ByteArray} {x y : Int} (h : ChkS s x y) : 0 ≤ x ∧ x ≤ 4 := by
  rcases h with ⟨_, rfl, _⟩ | ⟨_, ⟨wr, _, rfl, _⟩ | ⟨A, _, h3⟩⟩
  · omega
  · omega
  · unfold ChkA at h3; omega
theorem ways_law {s nm : ByteArray} {d : Dat} {x x0 x1 : Int} {L : List (Nat × Nat)} {o0 o1 : ByteArray} (hW : PWalk s nm x L) (h0 : RenS s nm 0 d o0 x0) (h1 : RenS s nm 1 d o1 x1) :
    (x = 0 → o0 = o1 ∧ x0 = x1 ∧ x0 ≠ 9 ∧ x0 ≠ 10 ∧ x0 ≠ 11) ∧ (x = 6 → x1 = 6 ∧ o1 = ⟨#[]⟩ ∧ L = []) ∧ (x ≠ 0 → x ≠ 6 → x0 = x ∧ x1 = x ∧ o0 = ⟨#[]⟩ ∧ o1 = ⟨#[]⟩ ∧ L = []) := by
  rcases hW with ⟨z, w1, w2, w3⟩ | ⟨A, w1, w2, w3, w4, w5⟩
  · have hr := chkS_range w1
    have go : ∀ {way : Int} {o : ByteArray} {x' : Int}, RenS s nm way d o x' → x' = x ∧ o = ⟨#[]⟩ := by
      intro way o x' h
      rcases h with ⟨z', k1, k2, k3⟩ | ⟨ts, A', k0, k1, k2, k3, k4, k5⟩
      · exact ⟨(chkS_unique k1 w1).1, k3⟩
      · exact absurd (chkS_unique w1 (.inr ⟨k1, .inr ⟨A', k2, .inr (.inr ⟨k3, k4, rfl, rfl⟩)⟩⟩)).1 w2
    obtain ⟨a1, a2⟩ := go h0
    obtain ⟨b1, b2⟩ := go h1
    exact ⟨fun e => absurd e w2, fun e => by omega, fun _ _ => ⟨a1, b1, a2, b2, w3⟩⟩
  · have hck : ChkS s 0 0 := .inr ⟨w1, .inr ⟨A, w2, .inr (.inr ⟨w3, w4, rfl, rfl⟩)⟩⟩
    rcases h0 with ⟨z', k1, k2, _⟩ | ⟨ts, A', k0, _, k2, _, _, k5⟩
    · exact absurd (chkS_unique k1 hck).1 k2
    rcases h1 with ⟨z', m1, m2, _⟩ | ⟨ts', A'', m0, _, _, _, _, m5⟩
    · exact absurd (chkS_unique m1 hck).1 m2
    obtain ⟨rfl, rfl⟩ := k0.one_way m0
    have eA := ends_unique w2 k2
    cases eA
    have hws := w5 ts k0
    rcases hws with ⟨q1, rfl, rfl⟩ | ⟨q1, ⟨q2, rfl, rfl⟩ | ⟨q2, rfl, q3⟩⟩
    · have r0 := rspec_unique k5 (.inr (.inl ⟨.inl rfl, q1, rfl, rfl⟩))
      have r1 := rspec_unique m5 (.inr (.inl ⟨.inr rfl, q1, rfl, rfl⟩))
      exact ⟨fun e => by omega, fun e => by omega, fun _ _ => ⟨r0.2, r1.2, r0.1, r1.1, rfl⟩⟩
    · have r1 := rspec_unique m5 (.inr (.inr (.inl ⟨q1, rfl, q2, rfl, rfl⟩)))
      exact ⟨fun e => by omega, fun _ => ⟨r1.2, r1.1, rfl⟩, fun _ e => absurd rfl e⟩
    · refine ⟨fun _ => ?_, fun e => by omega, fun e => absurd rfl e⟩
      obtain ⟨p1, p2, p3, p4⟩ := page_ways k0 nm d q2
      have a0 : endS true (pagR ts nm true d) o0 x0 := by
        rcases k5 with ⟨r1, _⟩ | ⟨_, r1, _⟩ | ⟨_, r1, _⟩ | ⟨_, _, r1⟩
        · exact absurd rfl r1
        · omega
        · omega
        · exact r1
      have a1 : endS false (pagR ts nm false d) o1 x1 := by
        rcases m5 with ⟨_, r1, _⟩ | ⟨_, r1, _⟩ | ⟨_, _, r1, _⟩ | ⟨_, _, r1⟩
        · exact absurd rfl r1
        · omega
        · exact absurd r1 q2
        · exact r1
      rw [← p1] at a1
      have p5 := pagR_11 ts nm true d
      generalize pagR ts nm true d = S at *
      rcases a0 with ⟨b1, rfl, rfl⟩ | ⟨b1, _, b3, rfl, rfl⟩ | ⟨b1, b2, rfl, rfl⟩ <;> rcases a1 with ⟨c1, rfl, rfl⟩ | ⟨c1, c2, _⟩ | ⟨c1, c2, rfl, rfl⟩
      · exact ⟨rfl, rfl, p2, p3, p5⟩
      · cases c2
      · exact absurd c1 b1
      · exact absurd b1 c1
      · cases c2
      · exact absurd (p4 b1) b3
      · exact absurd b1 c1
      · cases c2
      · exact ⟨rfl, rfl, by decide, by decide, by decide⟩
end Go.Proofs.YtffkejkgkgfnhaaGreat
namespace Go.Proofs.YtffkejkgkgfnhaaGreat
open Go.RowKit
set_option linter.unusedVariables false
theorem src_of {s : ByteArray} {A : List Ak} {ts : List Tm} (hT : TFlat s ts A s.size) (hs : s.size ≤ 400) (hun : unA (seenB (names A)) A < 0) :
    SrcW s A ts ∧ (∀ nm, hitB nm A = true → 0 ≤ fndF nm ts 0 ∧ BodAt s A (idxA nm A 0 + 1) (bod ts (tno ts nm))) ∧ (∀ nm, hitB nm A = false → fndF nm ts 0 < 0) := by
  obtain ⟨β, hβ⟩ := hT.places
  have e3 : hasF ts = seenB (names A) := funext hT.has
  have key : ∀ nm, hitB nm A = true → 0 ≤ fndF nm ts 0 ∧ BodAt s A (idxA nm A 0 + 1) (bod ts (tno ts nm)) := fun nm hh => by
    have h1 : hasF ts nm = true := by rw [e3]; exact hh
    have h2 : 0 ≤ fndF nm ts 0 := by simpa [hasF] using h1
    exact ⟨h2, by rw [(hβ.find nm h2).2]; exact hβ.body _ (tno_lt' ts nm h2)⟩
  refine ⟨⟨hs, fun i hi hk => ?_⟩, key, fun nm hh => ?_⟩
  · have h1 : hitB A[i].name A = true := un_all _ A hun i hi hk
    exact ⟨h1, (key _ h1).2⟩
  · have h1 : hasF ts nm = false := by rw [e3]; exact hh
    simpa [hasF] using h1
theorem rspec_page {s : ByteArray} {ts : List Tm} {A : List Ak} {p : Nat} (hT : TFlat s ts A p) {nm : ByteArray} {d : Dat} {way : Int} (hf : 0 ≤ fndF nm ts 0) (hw : way = 0 ∨ (way = 1 ∧ ¬ TBad ts (tno ts nm))) {out : ByteArray} {x : Int} (h : endS true (pagR ts nm true d) out x) : RSpec ts nm way d out x := by
  refine .inr (.inr (.inr ⟨hf, hw, ?_⟩))
  rcases hw with rfl | ⟨rfl, hb⟩
  · exact h
  · obtain ⟨p1, p2, p3, p4⟩ := page_ways hT nm d hb
    have e : decide ((1 : Int) = 0) = false := by decide
    rw [e, ← p1]
    rcases h with ⟨b1, b2, b3⟩ | ⟨b1, _, b3, _⟩ | ⟨b1, b2, b3, b4⟩
    · exact .inl ⟨b1, b2, b3⟩
    · exact absurd (p4 b1) b3
    · exact .inr (.inr ⟨b1, (fun q => by cases q), b3, b4⟩)
theorem wr0 (w : World) (s : ByteArray) (A : List Ak) (g ac : Nat) (da : Option Addr) (d : Dat) (dc : Nat) (hV : DatV w w.heap.size da d) (hok : d.ok false) (hbk : d.fits) (hlc : d.len ≤ dc) (hdc : dc ≤ maxLen) (hat : AkAt s w g A) (hg : g < w.heap.size) (hA : A.length ≤ 1000) (hac : A.length ≤ ac) (hacm : ac ≤ maxLen) :
    WrC ((w.alloc (.cells #[.slice da d.len dc] 31)).alloc (.cells #[.slice (some ⟨g, 0, none⟩) A.length ac, .slice (some ⟨w.heap.size, 0, none⟩) 1 1, .slice none 0 0, .int .i64 0, .int .i64 0] 114)) ⟨w.heap.size + 1, w.heap.size, g, ac, s, A⟩ (some ⟨w.heap.size, 0, none⟩) 1 none 0 [d] pst0 := by
  have s1 : (w.alloc (.cells #[.slice da d.len dc] 31)).heap.size = w.heap.size + 1 := by simp
  have hF := heap_new (w.alloc (.cells #[.slice da d.len dc] 31)) (.cells #[.slice (some ⟨g, 0, none⟩) A.length ac, .slice (some ⟨w.heap.size, 0, none⟩) 1 1, .slice none 0 0, .int .i64 0, .int .i64 0] 114)
  rw [s1] at hF
  generalize hW : (w.alloc (.cells #[.slice da d.len dc] 31)).alloc (.cells #[.slice (some ⟨g, 0, none⟩) A.length ac, .slice (some ⟨w.heap.size, 0, none⟩) 1 1, .slice none 0 0, .int .i64 0, .int .i64 0] 114) = W at *
  have hR : W.heap[w.heap.size]? = some (.cells #[.slice da d.len dc] 31) := by rw [← hW, Below.heap_alloc _ _ _ (by omega)]; exact heap_new _ _
  have hL : ∀ k, k < w.heap.size → W.heap[k]? = w.heap[k]? := fun k hk => by rw [← hW, Below.heap_alloc _ _ _ (by omega), Below.heap_alloc _ _ _ hk]
  have hS : W.heap.size = w.heap.size + 2 := by rw [← hW]; simp
  have c := fun j => cell_of_heap (j := j) hF
  have f : ∀ (j : Nat), W.frozen? ⟨w.heap.size + 1, j, none⟩ = false := by
    intro j
    simp [World.frozen?, hF]
  refine ⟨c 0, c 1, c 2, c 3, c 4, f 1, f 2, f 3, f 4, ⟨[.slice da d.len dc], ⟨rfl, .inr ⟨w.heap.size, 1, #[.slice da d.len dc], rfl, Nat.le_refl _, hR, Nat.le_refl _, by unfold maxLen; omega, rfl, rfl⟩⟩, ?_⟩, by simp [Value.ownBlock], World.ownsRow_nil _ _ _ _, by show w.heap.size + 1 < _; omega, hat.far (hL g hg), hg, by show w.heap.size ≤ w.heap.size + 1; omega, hA, hac, hacm, ⟨by show (0 : Nat) ≤ 2000; omega, by show (0 : Nat) ≤ 500; omega⟩, ?_⟩
  · exact ⟨da, dc, [], rfl, hV.mono (Nat.le_refl _) hL, hok, hbk, hlc, hdc, rfl⟩
  · show 0 ≤ ctxO ⟨#[]⟩
    decide
theorem nums_back (o : ByteArray) : strOfNums (o.data.toList.map fun b => (b.toNat : Int)) = o := by
  apply ByteArray.ext
  apply Array.ext'
  rw [strOfNums_data, List.map_map]
  have : ((fun n : Int => UInt8.ofNat n.toNat) ∘ fun b : UInt8 => (b.toNat : Int)) = id := by
    funext b
    simp
  rw [this, List.map_id]
theorem cells_nums (o : ByteArray) : Lib.strCells o = (o.data.toList.map fun b => (b.toNat : Int)).map (Value.int .u8) := by
  simp [Lib.strCells]
set_option maxRecDepth 100000 in
set_option maxHeartbeats 4000000 in
theorem b52 : PROKW 52 := by
  intro s nm way w da d dc hm hV hok hbk hlc hdc
  have Hc := hidS (fun o => c33L s (w.alloc o) hm)
  have HV := hidS hV
  have HO := hidS hok
  have HBK := hidS hbk
  have hdl : d.len ≤ maxLen := Nat.le_trans hlc hdc
  unfold maxLen at hdl
  clear hV hok hbk
  generalize hdd : d.len = dl at *
  have HDL := hidS hdd
  clear hdd
  go_enter Tryz.func52, Tryz.ntmps52
  go_wp2_with fail
  refine (Hc.out _).mono ?_
  clear Hc
  rintro e w1 ⟨hb1, v, x, y, rfl, hk, hor⟩
  have dcell : w1.cell? ⟨w.heap.size, 0, none⟩ = some (.slice da dl dc) := (hb1.cell (p := ⟨w.heap.size, 0, none⟩) (by show w.heap.size < _; simp)).trans (by simp)
  have hz1 : w.heap.size < w1.heap.size := by have := hb1.size; simp at this; omega
  have HB1 : Hid (Below w.heap.size w w1) := ((Below.refl _ _).alloc (Nat.le_refl _) _).trans (hb1.mono (by simp))
  clear hb1
  rcases hor with ⟨hx, rfl⟩ | ⟨rfl, g, ac, A, rfl, hs, hE, htw, hun, hat, hg1, hg2, hac, hacm, hA⟩
  · have HK := hidS (ren_err (nm := nm) (way := way) (d := d) ⟨y, hk, hx⟩)
    clear hk
    have hx2 : (x == 0) = false := by simp [hx]
    have hx3 : (x != 0) = true := by simp [hx]
    go_wp2
    go_ret2
    exact ⟨HB1.out, HK.out⟩
  · obtain ⟨ts, hT, hts6⟩ := tflat_ex s A hs hE w
    obtain ⟨hSrc, hkey, hmiss⟩ := src_of hT hs hun
    have HALL : Hid (∀ out x, RSpec ts nm way d out x → RenPost s nm way d (.returned (.tuple #[.string out, .int .i64 x]))) := fun out x h => ⟨out, x, rfl, .inr ⟨ts, A, hT, hs, hE, htw, hun, h⟩⟩
    have HPW : Hid (∀ x L, PWalk s nm x L → WSpec ts nm x L) := fun x L h => by
      rcases h with ⟨z, q1, q2, _⟩ | ⟨A', q1, q2, q3, q4, q5⟩
      · exact absurd (chkS_unique q1 hk).1 q2
      · have eA := ends_unique q2 hE
        cases eA
        exact q5 ts hT
    have HT := hidS hT
    have HSR := hidS hSrc
    have HKEY := hidS (hkey nm)
    have HMISS := hidS (hmiss nm)
    have HAT := hidS hat
    have hf := c71 s w1 g ac A.length A nm (Nat.le_refl _) hA hat
    rw [List.take_length] at hf
    have Hf := hidS hf
    clear hk hT hSrc hkey hmiss hE htw hun hat hf
    by_cases hway : way = 0 ∨ way = 1
    · cases hh : hitB nm A
      · have HS1 := hidS (HALL.out _ _ (.inr (.inl ⟨hway, HMISS.out hh, rfl, rfl⟩)))
        rw [hh] at Hf
        generalize idxA nm A 0 = IX at *
        rcases hway with rfl | rfl
        all_goals
          go_wp2_with (go_at_call 73; refine Hf.out.mono ?_; rintro e w' ⟨rfl, hw⟩; obtain rfl := hw.symm)
          go_ret2
          exact ⟨HB1.out, HS1.out⟩
      · obtain ⟨hfnd, hbod⟩ := HKEY.out hh
        have HBD := hidS hbod
        have hixl := hbod.lt
        rw [hh] at Hf
        clear HKEY HMISS hbod hh
        generalize idxA nm A 0 = IX at *
        rcases hway with rfl | rfl
        · go_wp2_with (go_at_call 73; refine Hf.out.mono ?_; rintro e w' ⟨rfl, hw⟩; obtain rfl := hw.symm)
          have hzb : w.heap.size < w1.heap.size := by omega
          have hwr := wr0 w1 s A g ac da d dc (DatV.mono HV.out (by omega) (fun q hq => HB1.out.block q hq)) HO.out HBK.out (by rw [HDL.out]; exact hlc) hdc HAT.out hg2 hA hac hacm
          rw [HDL.out] at hwr
          have hcall := bodW_all 500 _ ⟨w1.heap.size + 1, w1.heap.size, g, ac, s, A⟩ ts [d] pst0 (IX + 1) (bod ts (tno ts nm)) (by simp) (by simp) HSR.out HBD.out rfl ⟨_, _, _, _, hwr⟩
          change Calls Tryz.prog 78 #[.pointer (some ⟨w1.heap.size + 1, 0, none⟩), .int .i64 ((IX + 1 : Nat) : Int)] _ (WrPost ⟨w1.heap.size + 1, w1.heap.size, g, ac, s, A⟩ [d] (pagR ts nm true d) _) at hcall
          have hcast : ((IX + 1 : Nat) : Int) = (IX : Int) + 1 := by omega
          rw [hcast] at hcall
          have HEND : Hid (∀ out x, endS true (pagR ts nm true d) out x → RenPost s nm 0 d (.returned (.tuple #[.string out, .int .i64 x]))) := fun out x h => HALL.out out x (rspec_page HT.out hfnd (.inl rfl) h)
          have HBA : Hid (Below w.heap.size w ((w1.alloc (.cells #[.slice da dl dc] 31)).alloc (.cells #[.slice (some ⟨g, 0, none⟩) A.length ac, .slice (some ⟨w1.heap.size, 0, none⟩) 1 1, .slice none 0 0, .int .i64 0, .int .i64 0] 114))) := (HB1.out.alloc (by omega) _).alloc (by simp; omega) _
          have hpa := hwr.lt
          have Hcall := hidS hcall
          clear hcall hwr hcast
          generalize pagR ts nm true d = S at *
          generalize (w1.alloc (.cells #[.slice da dl dc] 31)).alloc (.cells #[.slice (some ⟨g, 0, none⟩) A.length ac, .slice (some ⟨w1.heap.size, 0, none⟩) 1 1, .slice none 0 0, .int .i64 0, .int .i64 0] 114) = wa at *
          refine Hcall.out.mono ?_
          rintro e w3 ⟨rfl, h3, hc3⟩
          have HB3 : Hid (Below w.heap.size w w3) := HBA.out.trans (hc3.below hpa (by show w1.heap.size ≤ w1.heap.size + 1; omega) w.heap.size (by show w.heap.size ≤ w1.heap.size; omega))
          by_cases he : S.err = 0
          · obtain ⟨ra, rc, oa, oc, hC⟩ := h3 he
            have c2 : w3.cell? ⟨w1.heap.size + 1, 2, none⟩ = some (.slice oa S.out.size oc) := hC.c2
            have c3 : w3.cell? ⟨w1.heap.size + 1, 3, none⟩ = some (.int .i64 (ctxO S.out)) := hC.c3
            have hO := hC.ownO
            have hpl : w1.heap.size + 1 < w3.heap.size := hC.lt
            rw [cells_nums] at hO
            have kc := cv_own w3 _ _ _ _ hO
            rw [nums_back] at kc
            rw [he]
            clear h3 hc3 Hcall hO hC
            by_cases hx : ctxO S.out = 0
            · have HR := hidS (HEND.out _ _ (.inr (.inr ⟨he, fun _ => hx, rfl, rfl⟩)))
              rw [hx] at c3
              go_wp2
              go_ret2
              exact ⟨HB3.out, HR.out⟩
            · have HR := hidS (HEND.out _ _ (.inr (.inl ⟨he, rfl, hx, rfl, rfl⟩)))
              have hx2 : (ctxO S.out != 0) = true := by simpa using hx
              generalize ctxO S.out = cx at *
              go_wp2
              go_ret2
              exact ⟨HB3.out, HR.out⟩
          · have HR := hidS (HEND.out _ _ (.inl ⟨he, rfl, rfl⟩))
            have he2 : (S.err != 0) = true := by simpa using he
            clear h3 hc3 Hcall
            go_wp2
            go_ret2
            exact ⟨HB3.out, HR.out⟩
        · have Hw := hidS (p48 s nm w1 hm)
          go_wp2_with (go_at_call 73; refine Hf.out.mono ?_; rintro e w' ⟨rfl, hw⟩; obtain rfl := hw.symm)
          refine Hw.out.mono ?_
          rintro e w2 ⟨hb2, a2, c2', x2, L2, rfl, _, hL2, hpw⟩
          have hws := HPW.out _ _ hpw
          have HB2 : Hid (Below w.heap.size w w2) := HB1.out.trans (hb2.mono (by omega))
          have hz2 : w1.heap.size ≤ w2.heap.size := hb2.size
          have HAT2 : Hid (AkAt s w2 g A) := HAT.out.far (hb2.block g hg2)
          have hg3 : g < w2.heap.size := by omega
          have dcell2 : w2.cell? ⟨w.heap.size, 0, none⟩ = some (.slice da dl dc) := (hb2.cell (p := ⟨w.heap.size, 0, none⟩) hz1).trans dcell
          clear Hw hb2 hpw dcell
          generalize L2.length = ll at *
          rcases hws with ⟨q1, _⟩ | ⟨_, ⟨q1, rfl, _⟩ | ⟨q1, rfl, _⟩⟩
          · omega
          · have HS1 := hidS (HALL.out _ _ (.inr (.inr (.inl ⟨hfnd, rfl, q1, rfl, rfl⟩))))
            go_wp2
            go_ret2
            exact ⟨HB2.out, HS1.out⟩
          · go_wp2_with fail
            have hzb : w.heap.size < w2.heap.size := by omega
            have hwr := wr0 w2 s A g ac da d dc (DatV.mono HV.out (by omega) (fun q hq => HB2.out.block q hq)) HO.out HBK.out (by rw [HDL.out]; exact hlc) hdc HAT2.out hg3 hA hac hacm
            rw [HDL.out] at hwr
            have hcall := bodW_all 500 _ ⟨w2.heap.size + 1, w2.heap.size, g, ac, s, A⟩ ts [d] pst0 (IX + 1) (bod ts (tno ts nm)) (by simp) (by simp) HSR.out HBD.out rfl ⟨_, _, _, _, hwr⟩
            change Calls Tryz.prog 78 #[.pointer (some ⟨w2.heap.size + 1, 0, none⟩), .int .i64 ((IX + 1 : Nat) : Int)] _ (WrPost ⟨w2.heap.size + 1, w2.heap.size, g, ac, s, A⟩ [d] (pagR ts nm true d) _) at hcall
            have hcast : ((IX + 1 : Nat) : Int) = (IX : Int) + 1 := by omega
            rw [hcast] at hcall
            have HEND : Hid (∀ out x, endS true (pagR ts nm true d) out x → RenPost s nm 1 d (.returned (.tuple #[.string out, .int .i64 x]))) := fun out x h => HALL.out out x (rspec_page HT.out hfnd (.inr ⟨rfl, q1⟩) h)
            have HBA : Hid (Below w.heap.size w ((w2.alloc (.cells #[.slice da dl dc] 31)).alloc (.cells #[.slice (some ⟨g, 0, none⟩) A.length ac, .slice (some ⟨w2.heap.size, 0, none⟩) 1 1, .slice none 0 0, .int .i64 0, .int .i64 0] 114))) := (HB2.out.alloc (by omega) _).alloc (by simp; omega) _
            have hpa := hwr.lt
            have Hcall := hidS hcall
            clear hcall hwr hcast
            generalize pagR ts nm true d = S at *
            generalize (w2.alloc (.cells #[.slice da dl dc] 31)).alloc (.cells #[.slice (some ⟨g, 0, none⟩) A.length ac, .slice (some ⟨w2.heap.size, 0, none⟩) 1 1, .slice none 0 0, .int .i64 0, .int .i64 0] 114) = wa at *
            refine Hcall.out.mono ?_
            rintro e w3 ⟨rfl, h3, hc3⟩
            have HB3 : Hid (Below w.heap.size w w3) := HBA.out.trans (hc3.below hpa (by show w2.heap.size ≤ w2.heap.size + 1; omega) w.heap.size (by show w.heap.size ≤ w2.heap.size; omega))
            by_cases he : S.err = 0
            · obtain ⟨ra, rc, oa, oc, hC⟩ := h3 he
              have c2 : w3.cell? ⟨w2.heap.size + 1, 2, none⟩ = some (.slice oa S.out.size oc) := hC.c2
              have c3 : w3.cell? ⟨w2.heap.size + 1, 3, none⟩ = some (.int .i64 (ctxO S.out)) := hC.c3
              have hO := hC.ownO
              have hpl : w2.heap.size + 1 < w3.heap.size := hC.lt
              rw [cells_nums] at hO
              have kc := cv_own w3 _ _ _ _ hO
              rw [nums_back] at kc
              rw [he]
              clear h3 hc3 Hcall hO hC
              by_cases hx : ctxO S.out = 0
              · have HR := hidS (HEND.out _ _ (.inr (.inr ⟨he, fun _ => hx, rfl, rfl⟩)))
                rw [hx] at c3
                go_wp2
                go_ret2
                exact ⟨HB3.out, HR.out⟩
              · have HR := hidS (HEND.out _ _ (.inr (.inl ⟨he, rfl, hx, rfl, rfl⟩)))
                have hx2 : (ctxO S.out != 0) = true := by simpa using hx
                generalize ctxO S.out = cx at *
                go_wp2
                go_ret2
                exact ⟨HB3.out, HR.out⟩
            · have HR := hidS (HEND.out _ _ (.inl ⟨he, rfl, rfl⟩))
              have he2 : (S.err != 0) = true := by simpa using he
              clear h3 hc3 Hcall
              go_wp2
              go_ret2
              exact ⟨HB3.out, HR.out⟩
    · have h0 : (way != 0) = true := by simp; omega
      have h1 : (way != 1) = true := by simp; omega
      have HS1 := hidS (HALL.out _ _ (.inl ⟨by omega, by omega, rfl, rfl⟩))
      clear hway
      go_wp2
      go_ret2
      exact ⟨HB1.out, HS1.out⟩
set_option maxHeartbeats 1000000 in
theorem b30w : PROKW 30 := by
  intro s nm way w da d dc hm hV hok hbk hlc hdc
  have Hc := hidS (fun o => b52 s nm way (w.alloc o) da d dc hm (DatV.mono hV (by simp) (fun q hq => Below.heap_alloc _ _ _ hq)) hok hbk hlc hdc)
  have Hc2 := hidS (b52 s nm way w da d dc hm hV hok hbk hlc hdc)
  clear hV hok hbk
  generalize d.len = dl at *
  go_enter Tryz.func30, Tryz.ntmps30
  go_wp2_with fail
  first
    | refine (Hc.out _).mono ?_
    | refine Hc2.out.mono ?_
  rintro e w1 ⟨hb, out, x, rfl, hp⟩
  have HB : Hid (Below w.heap.size w w1) := by first | exact hb | exact ((Below.refl _ _).alloc (Nat.le_refl _) _).trans (hb.mono (by simp))
  have HP := hidS hp
  clear hp hb
  go_wp2
  go_ret2
  exact ⟨HB.out, out, x, rfl, HP.out⟩
theorem b30 : PROK 30 := b30w.small
end Go.Proofs.YtffkejkgkgfnhaaGreat
namespace Go.Proofs.YtffkejkgkgfnhaaGreat
open Go.ChangeShapes Go.WideShapes Go.ChangeAt Go.RowKit Go.Deep
set_option linter.unusedVariables false
set_option maxHeartbeats 400000 in
theorem v7 (a : Option Addr) (len cap : Nat) (w : World) (hlen : len ≤ 1048576) (h : IsOpsD w a len) :
    Calls Tryz.prog 7 #[.slice a len cap] w fun e w' => e = .returned (.bool true) ∧ Below w.heap.size w w' := by
  have H := hidS (u7ops p25 b30 5 5 (by decide) (by decide) w a len cap hlen h)
  clear h
  go_enter Tryz.func7, Tryz.ntmps7
  go_wp2_with fail
  refine H.out.mono ?_
  rintro e w' ⟨rfl, hb⟩
  go_wp2
  go_ret
  exact ⟨rfl, hb⟩
theorem small_all {H : Type} (x : DataW H) (hk : Rows.uptoSmall H [x] = true) : Rows.uptoBulk x ≤ 1048576 := by
  have h := of_decide_eq_true hk
  simp only [Rows.uptoBulkAll] at h
  omega
set_option maxRecDepth 100000 in
theorem liftedR (os : Os) (started : os.Started) (H : Type) (enc : TypeId × Value → H) (F : Stop.Interp) :
    ReturnsInHanded {} Tryz.checked os 7 .any ((Rows.OpenSpec.upto Rows.rendersSpec).pre6 enc Tryz.prog Tryz.f7 Rows.rendersUptoRow.domain false) (((Rows.OpenSpec.upto Rows.rendersSpec).at F).post enc Tryz.prog Tryz.f7 false true false false) := by
  refine returnsInHanded_of_cond (C := Tryz.checked) (s := Rows.OpenSpec.upto Rows.rendersSpec) (k := Rows.uptoSmall) rfl own7 started (by kernel_rfl) Tryz.func7
    (OpenSpec.witness (enc := enc) (C := Tryz.checked) (s := Rows.OpenSpec.upto Rows.rendersSpec) (k := Rows.uptoSmall) rfl false ⟨#[], #[.slice none 0 0], []⟩ 8 (by kernel_rfl) (by kernel_rfl) (by kernel_rfl)
      (x := ([.nil], [], [])) (by kernel_rfl) rfl (by kernel_rfl)) ?_
  intro W base args ds gs before hval0 hW _ hk _
  have hval : ∀ (j : Nat) t v, Tryz.f7.params[j]? = some t → args[j]? = some v → Value.okWide Tryz.prog W .any base t v := hval0
  have hW' := hW
  obtain ⟨p, q, hA0, hV, rfl, hfz, hnd⟩ := hW
  have hA : DataW.TrodAll enc Tryz.prog W 0 (fun _ => true) true Tryz.f7.params.toList args.toList ds p := hA0
  rw [Tryz.params7] at hA hval
  obtain ⟨v0, vs0, d0, ds0, p0, q0, hargs, rfl, rfl, h0, r0⟩ := trodAll_cons hA
  obtain ⟨rfl, rfl, rfl⟩ := trodAll_nil r0
  obtain rfl : args = #[v0] := by cases args; simp_all
  obtain ⟨rfl, rfl⟩ := trodVars_none hV
  obtain ⟨a0, len0, cap0, rfl⟩ := okWide_slice Tryz.underlying22 (hval 0 22 v0 rfl rfl)
  have k0 := h0
  have lt0 : ∀ x ∈ p0, x.block < W.heap.size := by obtain ⟨m, hm⟩ := k0; exact DataW.trod_lt m _ _ _ hm
  obtain ⟨hlen, hops⟩ : len0 ≤ 1048576 ∧ IsOpsD W a0 len0 := by
    obtain ⟨fuel, hf⟩ := h0
    refine ⟨?_, open_opsD (small_all d0 hk) hf⟩
    rcases open_len hf with h3 | ⟨elems, spare, h3, h4⟩
    · omega
    · rw [← h4]; exact small_len d0 hk elems spare h3
  clear hA0 hval0
  refine (v7 a0 len0 cap0 W hlen hops).mono fun e W' ⟨he, bel⟩ => ?_
  subst he
  exact ⟨_, rfl, _, _, _, [], _, [], hW', trodAll_mk1 (shut_bool Tryz.underlying4 _), (trodAll_cons_mk (Below.trod laid7 (by kernel_rfl) (of_decide_eq_true (by kernel_rfl)) k0 bel lt0) trodAll_mk0), rfl, bel.frame _, fun h => by cases h⟩
theorem overR : Rows.rendersUptoRow.holds Tryz.pinned (Rows.OpenSpec.upto Rows.rendersSpec) :=
  OpenClaim.holds_of_cond 7 Tryz.f7 rfl rfl rfl rfl rfl rfl rfl ⟨rfl, rfl, rfl, rfl, rfl⟩ rfl rfl rfl rfl rfl (by kernel_rfl) Tryz.func7 (by kernel_rfl)
    (of_decide_eq_true (by kernel_rfl)) (by unfold Func.isWrapper; first | (rw [if_pos (by decide +kernel)]; kernel_rfl) | (rw [if_neg (by decide +kernel)]; exact ⟨rfl, rfl⟩))
    (fun os started H enc _ F => liftedR os started H enc F)
theorem renders_proved : Rows.RendersUptoSaid := overR
end Go.Proofs.YtffkejkgkgfnhaaGreat
