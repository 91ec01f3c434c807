import Derived.Test.YtffkejkgkgfnhabGreatG03
namespace Go.Proofs.YtffkejkgkgfnhabGreat
open Go.RowKit
set_option linter.unusedVariables false
def ownA (B : Nat) (w : World) (v : Value) : Nat → Prop := fun k => B ≤ k ∧ k < w.heap.size ∧ some k ≠ v.ownBlock
theorem row_step {B : Nat} {wr wa w3 : World} {lv : Value} {ns one : Nds} {xs ys : List Value} {g n c : Nat} (hr : RowOK wr (ownA B wr lv) 102 ns xs) (hb : Below wr.heap.size wr wa)
    (hone : RowOK wa (rng wr.heap.size wa.heap.size) 102 one ys) (hg : wa.grownBy w3 lv.ownBlock) (hat : lv.ownBlock = some g ∨ g = wa.heap.size) (hlv : ∀ k, lv.ownBlock = some k → k < wr.heap.size) (hB : B ≤ wr.heap.size) :
    RowOK w3 (ownA B w3 (.slice (some ⟨g, 0, none⟩) n c)) 102 (ns.app one) (xs ++ ys) := by
  have hz := hb.size
  have hz3 := hg.size
  refine RowOK.app ns one xs ys (RowOK.mono (fun k hk => ?_) (fun k hk => ?_) ns xs hr) (RowOK.mono (fun k hk => ?_) (fun k hk => ?_) one ys hone)
  · obtain ⟨h1, h2, h3⟩ := hk
    rw [hg.block k (by omega) h3, hb.block k h2]
  · obtain ⟨h1, h2, h3⟩ := hk
    refine ⟨h1, by omega, ?_⟩
    rcases hat with h | h
    · rw [h] at h3; exact h3
    · simp [Value.ownBlock]; omega
  · obtain ⟨h1, h2⟩ := hk
    refine hg.block k h2 ?_
    intro e
    have := hlv k e.symm
    omega
  · obtain ⟨h1, h2⟩ := hk
    refine ⟨by omega, by omega, ?_⟩
    simp only [Value.ownBlock, ne_eq, Option.some.injEq]
    rcases hat with h | h
    · have := hlv g h; omega
    · omega
theorem Flat.len {s : ByteArray} {d p e : Nat} {a : Nds} {A : List Ak} (h : Flat s d a p A e) : a.len + p ≤ e := by
  induction h with
  | nil d p => simp [Nds.len]
  | text h _ ih => simp only [Nds.len]; omega
  | @hole d p e r A h _ ih => have := act_next s p (by omega); simp only [Nds.len]; omega
  | @call d p e r A h _ ih => have := act_next s p (by omega); simp only [Nds.len]; omega
  | @loop d p e e1 th r A1 A hd h k1 h1 k2 ih1 ih => have := act_next s p (by omega); have := act_next s e1 (by omega); simp only [Nds.len]; omega
  | @one d p e e1 th r A1 A hd h k1 h1 k2 ih1 ih => have := act_next s p (by omega); have := act_next s e1 (by omega); simp only [Nds.len]; omega
  | @two d p e e1 e2 th el r A1 A2 A hd h k1 h1 k2 h2 k3 ih1 ih2 ih => have := act_next s p (by omega); have := act_next s e1 (by omega); have := act_next s e2 (by omega); simp only [Nds.len]; omega
theorem info121 : (Tryz.prog.info? 102).map (fun i => (i.zero, i.size, i.bytes)) = some (some (.agg #[.int .i64 0, .int .i64 0, .string ⟨#[]⟩, .slice none 0 0, .slice none 0 0, .bool false]), 6, 88) := by kernel_rfl
theorem nd_cells (w : World) (k a : Int) (nm : ByteArray) (ta ea : Option Addr) (tn tc en ec : Nat) (two : Bool) : ∀ (j : Nat) (u : Value), (ndC k a nm (.slice ta tn tc) (.slice ea en ec) two)[j]? = some u →
    (w.alloc (.cells #[.int .i64 k, .int .i64 a, .string nm, .slice ta tn tc, .slice ea en ec, .bool two] 102)).cell? ((⟨w.heap.size, 0, none⟩ : Addr).add j) = some u := by
  intro j u hj
  match j, hj with
  | 0, hj => simp [ndC] at hj; subst hj; simp [Addr.add]
  | 1, hj => simp [ndC] at hj; subst hj; simp [Addr.add]
  | 2, hj => simp [ndC] at hj; subst hj; simp [Addr.add]
  | 3, hj => simp [ndC] at hj; subst hj; simp [Addr.add]
  | 4, hj => simp [ndC] at hj; subst hj; simp [Addr.add]
  | 5, hj => simp [ndC] at hj; subst hj; simp [Addr.add]
  | j + 6, hj => simp [ndC] at hj
theorem nd_one (k a : Int) (nm : ByteArray) (ta ea : Option Addr) (tn tc en ec : Nat) (two : Bool) : ∀ u ∈ ndC k a nm (.slice ta tn tc) (.slice ea en ec) two, u.oneCell' = true := by
  intro u hu
  simp [ndC] at hu
  rcases hu with rfl | rfl | rfl | rfl | rfl | rfl <;> rfl
theorem one_row (w : World) (A : Nat → Prop) (k a : Int) (nm : ByteArray) : RowOK w A 102 (.cons k a nm .nil .nil false .nil) (ndC k a nm (.slice none 0 0) (.slice none 0 0) false) :=
  ⟨_, _, [], by simp, .inl ⟨rfl, rfl, rfl⟩, .inl ⟨rfl, rfl, rfl⟩, rfl⟩
theorem nd_cells2 (w : World) (o : Obj) (k a : Int) (nm : ByteArray) (ta ea : Option Addr) (tn tc en ec : Nat) (two : Bool) : ∀ (j : Nat) (u : Value), (ndC k a nm (.slice ta tn tc) (.slice ea en ec) two)[j]? = some u →
    ((w.alloc o).alloc (.cells #[.int .i64 k, .int .i64 a, .string nm, .slice ta tn tc, .slice ea en ec, .bool two] 102)).cell? ((⟨w.heap.size + 1, 0, none⟩ : Addr).add j) = some u := by
  intro j u hj
  have := nd_cells (w.alloc o) k a nm ta ea tn tc en ec two j u hj
  rw [World.size_alloc] at this
  exact this
theorem own_below {w w' : World} {base : Nat} {e : TypeId} {size : Nat} {v : Value} {n : Nat} {xs : List Value} (h : w.ownsRow base e size v n xs) (hb : Below w.heap.size w w') : w'.ownsRow base e size v n xs :=
  h.kept (row := none) ⟨hb.os, hb.tape, hb.output, hb.size, fun k hk _ => hb.block k hk⟩ (Classical.em _)
theorem heap_two (w : World) (o o' : Obj) (k : Nat) (h : k < w.heap.size) : ((w.alloc o).alloc o').heap[k]? = w.heap[k]? := by
  rw [Below.heap_alloc _ _ _ (by simp; omega), Below.heap_alloc _ _ _ h]
theorem one_row2 (w : World) (A : Nat → Prop) (k a : Int) (nm : ByteArray) (tv ev : Value) (th el : Nds) (two : Bool) (h1 : Slc w A 102 tv th) (h2 : Slc w A 102 ev el) : RowOK w A 102 (.cons k a nm th el two .nil) (ndC k a nm tv ev two) :=
  ⟨_, _, [], by simp, h1, h2, rfl⟩
theorem len_one (ns : Nds) (k a : Int) (nm : ByteArray) (th el : Nds) (two : Bool) : (ns.app (.cons k a nm th el two .nil)).len = ns.len + 1 := by rw [Nds.len_app]; rfl
theorem err_here (s : ByteArray) (p d q wr : Nat) (ns : Nds) (A : List Ak) (hf : Flat s d ns p A q) (h : ∀ nt op acts, stepC s ⟨q, true, nt, op, acts⟩ = .err wr) : EndsErr s p d wr := by
  intro nt op acts ho
  exact Ends.of (hf.reach nt op acts ho) (ends_err (h nt op _))
theorem err_end (s : ByteArray) (p d q : Nat) (ns : Nds) (A : List Ak) (hf : Flat s d ns p A q) (hq : ¬ q < s.size) : EndsErr s p d s.size :=
  err_here s p d q s.size ns A hf (fun nt op acts => by simp [stepC, hq])
theorem err_bad (s : ByteArray) (p d q : Nat) (ns : Nds) (A : List Ak) (hf : Flat s d ns p A q) (hq : q < s.size) (ht : txB (gb s q) = false) (hk : (act s q).kind = 0 ∨ (act s q).kind = 1) : EndsErr s p d q :=
  err_here s p d q q ns A hf (fun nt op acts => step_err s q nt op acts true hq (fun _ => ht) (by rcases hk with h | h <;> rw [h] <;> simp [takeS]))
theorem err_on (s : ByteArray) (p d q wr : Nat) (ns : Nds) (A : List Ak) (hf : Flat s d ns p A q) (h : EndsErr s q d wr) : EndsErr s p d wr := by
  intro nt op acts ho
  exact Ends.of (hf.reach nt op acts ho) (h nt op _ ho)
theorem own_slc {B : Nat} {w : World} {v : Value} {ns : Nds} {xs : List Value} (h : w.ownsRow B 102 6 v ns.len xs) (hr : RowOK w (ownA B w v) 102 ns xs) : Slc w (rng B w.heap.size) 102 v ns :=
  Slc.ofOwn h (fun g hg => h.lt g hg) (RowOK.mono (fun _ _ => rfl) (fun k hk => ⟨hk.1, hk.2.1⟩) ns xs hr)
theorem own_form {B : Nat} {w : World} {v : Value} {n : Nat} {xs : List Value} (h : w.ownsRow B 102 6 v n xs) : ∃ a c, v = .slice a n c := by
  rcases h.2 with ⟨rfl, rfl⟩ | ⟨g, cap, cur, rfl, _⟩
  · exact ⟨_, _, rfl⟩
  · exact ⟨_, _, rfl⟩
set_option maxRecDepth 100000 in
set_option maxHeartbeats 8000000 in
theorem body_ok (s : ByteArray) (p : Nat) (hs : s.size ≤ 1000) (hp : p ≤ s.size) (ht : ∀ p', p ≤ p' → ThingOK s p') : BodyOK s p := by
  intro d w hd
  obtain ⟨i0, hi, hz0, hz1, hz2⟩ := info_parts info121
  have HT := hidS ht
  clear ht
  go_enter Tryz.func54, Tryz.ntmps54
  go_wp2
  go_loopw [1, 9, 10, 11, 12, 13, 14, 15, 16] (fun pv lv _ _ _ _ _ _ _ wr => ∃ (q : Nat) (ns : Nds) (A : List Ak) (xs : List Value), p ≤ q ∧ q ≤ s.size ∧ pv = .int .i64 q ∧ Hid (Flat s d ns p A q) ∧ wr.ownsRow w.heap.size 102 6 lv ns.len xs ∧ RowOK wr (ownA w.heap.size wr lv) 102 ns xs ∧ Below w.heap.size w wr) (fun pv _ _ _ _ _ _ _ _ _ => s.size - (intOf pv).toNat)
  case atStart => exact ⟨p, .nil, [], [], Nat.le_refl _, hp, rfl, Flat.nil d p, World.ownsRow_nil _ _ _ _, rfl, Below.refl _ _⟩
  case round =>
    obtain ⟨q, ns, A, xs, hpq, hq, rfl, HF, hown, hrow, hbel⟩ := hrel
    have HR := hidS hrow
    have HFl := hidS HF.out.len
    clear hrow
    have hnl : ns.len ≤ 1000 := by have := HFl.out; omega
    have hbs := hbel.size
    by_cases hlt : q < s.size
    · by_cases htx : q < skp s txB q
      · have hle := skp_le s txB q (by omega)
        have Hw := hidS (c99 s q wr hs (by omega))
        have HX := hidS (Flat.app HF.out (Flat.text htx (Flat.nil d (skp s txB q))))
        generalize skp s txB q = q2 at *
        go_wp2_with (first | (go_at_call 80; refine Hw.out.mono ?_; rintro e w' ⟨rfl, hw⟩; obtain rfl := hw.symm) | (at_builtin; refine wpList_append_lies _ rfl _ _ 70 rfl w.heap.size 102 i0 (.agg #[.int .i64 0, .int .i64 0, .string ⟨#[]⟩, .slice none 0 0, .slice none 0 0, .bool false]) 6 88 Tryz.underlying70 hi hz0 hz1 hz2 rfl (by decide) _ _ _ rfl (hown.alloc _) ⟨wr.heap.size, 0, none⟩ 1 1 (ndC 1 q (s.extract q q2) (.slice none 0 0) (.slice none 0 0) false) rfl rfl ?c1 ?c2 (by decide) ?c3 ?c4 ?c5 _ rfl ?_))
        case c1 => exact nd_cells _ _ _ _ _ _ _ _ _ _ _
        case c2 => exact nd_one _ _ _ _ _ _ _ _ _ _
        case c3 => unfold maxLen; omega
        case c4 => omega
        case c5 => simp; omega
        intro g cap w3 hown3 hg3 hat3 hlt3
        have hbel3 : Below w.heap.size w w3 := (hbel.alloc hbs _).grown hg3 (by simp; omega) (fun j hj => (hown.lt j hj).1)
        have HR3 : Hid (RowOK w3 (ownA w.heap.size w3 (.slice (some ⟨g, 0, none⟩) (ns.len + 1) cap)) 102 (ns.app (.cons 1 q (s.extract q q2) .nil .nil false .nil)) (xs ++ ndC 1 q (s.extract q q2) (.slice none 0 0) (.slice none 0 0) false)) :=
          row_step HR.out ((Below.refl _ _).alloc (Nat.le_refl _) _) (one_row _ _ _ _ _) hg3 (by simpa using hat3) (fun k hk => (hown.lt k hk).2) hbs
        have HO : Hid (w3.ownsRow w.heap.size 102 6 (.slice (some ⟨g, 0, none⟩) (ns.len + 1) cap) (ns.app (.cons 1 q (s.extract q q2) .nil .nil false .nil)).len (xs ++ ndC 1 q (s.extract q q2) (.slice none 0 0) (.slice none 0 0) false)) := by
          show World.ownsRow _ _ _ _ _ _ _
          rw [len_one]; exact hown3
        clear hown3 hg3 hat3 hown hbel
        go_wp2
        go_roundw
        case rel => exact ⟨q2, _, _, _, by omega, by omega, rfl, HX.out, HO.out, HR3.out, hbel3⟩
        case measure => simp [intOf]; omega
      · have hsk : skp s txB q = q := by have := skp_ge s txB q; omega
        have Htb : Hid (txB (gb s q) = false) := by
          have := skp_at s txB q (by omega)
          rw [hsk] at this; exact this
        have Hw : Hid (∀ w, Calls Tryz.prog 80 #[.string s, .int .i64 q] w fun e w' => e = .returned (.int .i64 q) ∧ w' = w) := by
          intro w
          have := c99 s q w hs (by omega)
          rw [hsk] at this
          exact this
        clear htx hsk
        have hkr := act_range s q
        have Ha := hidS (c83 s q)
        go_wp2_with (go_at_call 80; refine (Hw.out _).mono ?_; rintro e w' ⟨rfl, hw⟩; obtain rfl := hw.symm)
        refine (Ha.out _ (by omega) (by omega)).mono ?_
        rintro e w1 ⟨rfl, n, hw1⟩
        have hown1 : w1.ownsRow w.heap.size 102 6 u9 ns.len xs := by rw [hw1]; exact hown
        have HR1 : Hid (RowOK w1 (ownA w.heap.size w1 u9) 102 ns xs) := by rw [hw1]; exact RowOK.mono (w := wr) (w' := wr.drewN n) (A := ownA w.heap.size wr u9) (A' := ownA w.heap.size (wr.drewN n) u9) (fun _ _ => rfl) (fun _ h => ⟨h.1, h.2.1, h.2.2⟩) ns xs HR.out
        have hbel1 : Below w.heap.size w w1 := by rw [hw1]; exact below_drewN hbel n
        clear hown HR hbel hw1 hbs wr
        have hown := hown1
        have HR := HR1
        have hbel := hbel1
        clear hown1 HR1 hbel1
        have hbs := hbel.size
        obtain hk | hk | hk | hk | hk | hk | hk | hk | hk : (act s q).kind = 0 ∨ (act s q).kind = 1 ∨ (act s q).kind = 2 ∨ (act s q).kind = 3 ∨ (act s q).kind = 4 ∨ (act s q).kind = 5 ∨ (act s q).kind = 6 ∨ (act s q).kind = 7 ∨ (act s q).kind = 8 := by omega
        · rw [ra_lit s q 0 0 hk rfl]
          have HE := hidS (err_bad s p d q ns A HF.out hlt Htb.out (by omega))
          clear hk hkr hown
          go_wp2
          go_ret3
          exact ⟨hbel, .inl ⟨q, rfl, HE.out⟩⟩
        · rw [ra_lit s q 1 43 hk rfl]
          have HE := hidS (err_bad s p d q ns A HF.out hlt Htb.out (by omega))
          clear hk hkr hown
          go_wp2
          go_ret3
          exact ⟨hbel, .inl ⟨q, rfl, HE.out⟩⟩
        · rw [ra_lit s q 2 45 hk rfl]
          obtain ⟨fa, fc, hfv⟩ := own_form hown
          have HS := hidS (own_slc hown HR.out)
          have HKt : Hid (termK (act s q).kind) := by show termK _; unfold termK; omega
          clear hk hkr hown HR
          go_wp2
          go_ret3
          subst hfv
          exact ⟨hbel, .inr ⟨fa, ns.len, fc, ns, A, q, rfl, HF.out, hlt, HKt.out, HS.out⟩⟩
        · rw [ra_lit s q 3 32 hk rfl]
          obtain ⟨m1, m2, _, _⟩ := act_next s q (by omega)
          have HX := hidS (Flat.app HF.out (Flat.hole hk (Flat.nil d (act s q).next)))
          clear hk hkr Ha
          generalize (act s q).next = q2 at *
          generalize (act s q).name = nm at *
          go_wp2_with (at_builtin; refine wpList_append_lies _ rfl _ _ 70 rfl w.heap.size 102 i0 (.agg #[.int .i64 0, .int .i64 0, .string ⟨#[]⟩, .slice none 0 0, .slice none 0 0, .bool false]) 6 88 Tryz.underlying70 hi hz0 hz1 hz2 rfl (by decide) _ _ _ rfl (hown.alloc _) ⟨w1.heap.size, 0, none⟩ 1 1 (ndC 2 q nm (.slice none 0 0) (.slice none 0 0) false) rfl rfl ?c1 ?c2 (by decide) ?c3 ?c4 ?c5 _ rfl ?_)
          case c1 => exact nd_cells _ _ _ _ _ _ _ _ _ _ _
          case c2 => exact nd_one _ _ _ _ _ _ _ _ _ _
          case c3 => unfold maxLen; omega
          case c4 => omega
          case c5 => simp; omega
          intro g cap w3 hown3 hg3 hat3 hlt3
          have hbel3 : Below w.heap.size w w3 := (hbel.alloc hbs _).grown hg3 (by simp; omega) (fun j hj => (hown.lt j hj).1)
          have HR3 : Hid (RowOK w3 (ownA w.heap.size w3 (.slice (some ⟨g, 0, none⟩) (ns.len + 1) cap)) 102 (ns.app (.cons 2 q nm .nil .nil false .nil)) (xs ++ ndC 2 q nm (.slice none 0 0) (.slice none 0 0) false)) :=
            row_step HR.out ((Below.refl _ _).alloc (Nat.le_refl _) _) (one_row _ _ _ _ _) hg3 (by simpa using hat3) (fun k hk => (hown.lt k hk).2) hbs
          have HO : Hid (w3.ownsRow w.heap.size 102 6 (.slice (some ⟨g, 0, none⟩) (ns.len + 1) cap) (ns.app (.cons 2 q nm .nil .nil false .nil)).len (xs ++ ndC 2 q nm (.slice none 0 0) (.slice none 0 0) false)) := by
            show World.ownsRow _ _ _ _ _ _ _
            rw [len_one]; exact hown3
          clear hown3 hg3 hat3 hown hbel
          go_wp2
          go_roundw
          case rel => exact ⟨q2, _, _, _, by omega, by omega, rfl, HX.out, HO.out, HR3.out, hbel3⟩
          case measure => simp [intOf]; omega
        · rw [ra_lit s q 4 63 hk rfl]
          have Ht := hidS (HT.out q hpq d w1 hd (by omega))
          clear hk hkr Ha
          go_wp2_with fail
          refine Ht.out.mono ?_
          rintro e w2 ⟨hb2, hor⟩
          have hown2 : w2.ownsRow w.heap.size 102 6 u9 ns.len xs := own_below hown hb2
          have hbel2 := hbel.trans (hb2.mono hbs)
          have hbs2 := hb2.size
          rcases hor with ⟨xk, xa, nm, ta, ea, tn, tc, en, ec, two, er, rfl, hE⟩ | ⟨xk, nm, ta, ea, tn, tc, en, ec, two, th, el, A2, q2, rfl, hF2, hq2, hpq2, hS1, hS2⟩
          · have HE := hidS (err_on s p d q er ns A HF.out hE)
            clear hE hown hown2 hbel hb2 Ht
            go_wp2
            go_ret3
            exact ⟨hbel2.alloc (by omega) _, .inl ⟨er, rfl, HE.out⟩⟩
          · have HX := hidS (Flat.app HF.out hF2)
            have HS1 := hidS hS1
            have HS2 := hidS hS2
            have HB2 := hidS hb2
            have HL := hidS (fun k hk => (hown.lt k hk).2)
            clear hF2 hS1 hS2 hb2 hown hbel Ht
            go_wp2_with (at_builtin; refine wpList_append_lies _ rfl _ _ 70 rfl w.heap.size 102 i0 (.agg #[.int .i64 0, .int .i64 0, .string ⟨#[]⟩, .slice none 0 0, .slice none 0 0, .bool false]) 6 88 Tryz.underlying70 hi hz0 hz1 hz2 rfl (by decide) _ _ _ rfl ((hown2.alloc _).alloc _) ⟨w2.heap.size + 1, 0, none⟩ 1 1 (ndC xk q nm (.slice ta tn tc) (.slice ea en ec) two) rfl rfl ?c1 ?c2 (by decide) ?c3 ?c4 ?c5 _ rfl ?_)
            case c1 => exact nd_cells2 _ _ _ _ _ _ _ _ _ _ _ _
            case c2 => exact nd_one _ _ _ _ _ _ _ _ _ _
            case c3 => unfold maxLen; omega
            case c4 => omega
            case c5 => simp; omega
            intro g cap w3 hown3 hg3 hat3 hlt3
            have hbel3 : Below w.heap.size w w3 := ((hbel2.alloc (by omega) _).alloc (by simp; omega) _).grown hg3 (by simp; omega) (fun j hj => (hown2.lt j hj).1)
            have HR3 : Hid (RowOK w3 (ownA w.heap.size w3 (.slice (some ⟨g, 0, none⟩) (ns.len + 1) cap)) 102 (ns.app (.cons xk q nm th el two .nil)) (xs ++ ndC xk q nm (.slice ta tn tc) (.slice ea en ec) two)) :=
              row_step HR.out (((HB2.out).alloc hbs2 _).alloc (by simp; omega) _) (one_row2 _ _ _ _ _ _ _ _ _ _ (HS1.out.mono (fun k hk => heap_two _ _ _ k hk.2) (fun k hk => ⟨hk.1, by have := hk.2; simp; omega⟩)) (HS2.out.mono (fun k hk => heap_two _ _ _ k hk.2) (fun k hk => ⟨hk.1, by have := hk.2; simp; omega⟩))) hg3 (by simpa using hat3) HL.out hbs
            have HO : Hid (w3.ownsRow w.heap.size 102 6 (.slice (some ⟨g, 0, none⟩) (ns.len + 1) cap) (ns.app (.cons xk q nm th el two .nil)).len (xs ++ ndC xk q nm (.slice ta tn tc) (.slice ea en ec) two)) := by
              show World.ownsRow _ _ _ _ _ _ _
              rw [len_one]; exact hown3
            clear hown3 hg3 hat3 hown2 hbel2
            go_wp2
            go_roundw
            case rel => exact ⟨q2, _, _, _, by omega, by omega, rfl, HX.out, HO.out, HR3.out, hbel3⟩
            case measure => simp [intOf]; omega
        · rw [ra_lit s q 5 58 hk rfl]
          obtain ⟨fa, fc, hfv⟩ := own_form hown
          have HS := hidS (own_slc hown HR.out)
          have HKt : Hid (termK (act s q).kind) := by show termK _; unfold termK; omega
          clear hk hkr hown HR
          go_wp2
          go_ret3
          subst hfv
          exact ⟨hbel, .inr ⟨fa, ns.len, fc, ns, A, q, rfl, HF.out, hlt, HKt.out, HS.out⟩⟩
        · rw [ra_lit s q 6 42 hk rfl]
          have Ht := hidS (HT.out q hpq d w1 hd (by omega))
          clear hk hkr Ha
          go_wp2_with fail
          refine Ht.out.mono ?_
          rintro e w2 ⟨hb2, hor⟩
          have hown2 : w2.ownsRow w.heap.size 102 6 u9 ns.len xs := own_below hown hb2
          have hbel2 := hbel.trans (hb2.mono hbs)
          have hbs2 := hb2.size
          rcases hor with ⟨xk, xa, nm, ta, ea, tn, tc, en, ec, two, er, rfl, hE⟩ | ⟨xk, nm, ta, ea, tn, tc, en, ec, two, th, el, A2, q2, rfl, hF2, hq2, hpq2, hS1, hS2⟩
          · have HE := hidS (err_on s p d q er ns A HF.out hE)
            clear hE hown hown2 hbel hb2 Ht
            go_wp2
            go_ret3
            exact ⟨hbel2.alloc (by omega) _, .inl ⟨er, rfl, HE.out⟩⟩
          · have HX := hidS (Flat.app HF.out hF2)
            have HS1 := hidS hS1
            have HS2 := hidS hS2
            have HB2 := hidS hb2
            have HL := hidS (fun k hk => (hown.lt k hk).2)
            clear hF2 hS1 hS2 hb2 hown hbel Ht
            go_wp2_with (at_builtin; refine wpList_append_lies _ rfl _ _ 70 rfl w.heap.size 102 i0 (.agg #[.int .i64 0, .int .i64 0, .string ⟨#[]⟩, .slice none 0 0, .slice none 0 0, .bool false]) 6 88 Tryz.underlying70 hi hz0 hz1 hz2 rfl (by decide) _ _ _ rfl ((hown2.alloc _).alloc _) ⟨w2.heap.size + 1, 0, none⟩ 1 1 (ndC xk q nm (.slice ta tn tc) (.slice ea en ec) two) rfl rfl ?c1 ?c2 (by decide) ?c3 ?c4 ?c5 _ rfl ?_)
            case c1 => exact nd_cells2 _ _ _ _ _ _ _ _ _ _ _ _
            case c2 => exact nd_one _ _ _ _ _ _ _ _ _ _
            case c3 => unfold maxLen; omega
            case c4 => omega
            case c5 => simp; omega
            intro g cap w3 hown3 hg3 hat3 hlt3
            have hbel3 : Below w.heap.size w w3 := ((hbel2.alloc (by omega) _).alloc (by simp; omega) _).grown hg3 (by simp; omega) (fun j hj => (hown2.lt j hj).1)
            have HR3 : Hid (RowOK w3 (ownA w.heap.size w3 (.slice (some ⟨g, 0, none⟩) (ns.len + 1) cap)) 102 (ns.app (.cons xk q nm th el two .nil)) (xs ++ ndC xk q nm (.slice ta tn tc) (.slice ea en ec) two)) :=
              row_step HR.out (((HB2.out).alloc hbs2 _).alloc (by simp; omega) _) (one_row2 _ _ _ _ _ _ _ _ _ _ (HS1.out.mono (fun k hk => heap_two _ _ _ k hk.2) (fun k hk => ⟨hk.1, by have := hk.2; simp; omega⟩)) (HS2.out.mono (fun k hk => heap_two _ _ _ k hk.2) (fun k hk => ⟨hk.1, by have := hk.2; simp; omega⟩))) hg3 (by simpa using hat3) HL.out hbs
            have HO : Hid (w3.ownsRow w.heap.size 102 6 (.slice (some ⟨g, 0, none⟩) (ns.len + 1) cap) (ns.app (.cons xk q nm th el two .nil)).len (xs ++ ndC xk q nm (.slice ta tn tc) (.slice ea en ec) two)) := by
              show World.ownsRow _ _ _ _ _ _ _
              rw [len_one]; exact hown3
            clear hown3 hg3 hat3 hown2 hbel2
            go_wp2
            go_roundw
            case rel => exact ⟨q2, _, _, _, by omega, by omega, rfl, HX.out, HO.out, HR3.out, hbel3⟩
            case measure => simp [intOf]; omega
        · rw [ra_lit s q 7 47 hk rfl]
          obtain ⟨fa, fc, hfv⟩ := own_form hown
          have HS := hidS (own_slc hown HR.out)
          have HKt : Hid (termK (act s q).kind) := by show termK _; unfold termK; omega
          clear hk hkr hown HR
          go_wp2
          go_ret3
          subst hfv
          exact ⟨hbel, .inr ⟨fa, ns.len, fc, ns, A, q, rfl, HF.out, hlt, HKt.out, HS.out⟩⟩
        · rw [ra_lit s q 8 62 hk rfl]
          obtain ⟨m1, m2, _, _⟩ := act_next s q (by omega)
          have HX := hidS (Flat.app HF.out (Flat.call hk (Flat.nil d (act s q).next)))
          clear hk hkr Ha
          generalize (act s q).next = q2 at *
          generalize (act s q).name = nm at *
          go_wp2_with (at_builtin; refine wpList_append_lies _ rfl _ _ 70 rfl w.heap.size 102 i0 (.agg #[.int .i64 0, .int .i64 0, .string ⟨#[]⟩, .slice none 0 0, .slice none 0 0, .bool false]) 6 88 Tryz.underlying70 hi hz0 hz1 hz2 rfl (by decide) _ _ _ rfl (hown.alloc _) ⟨w1.heap.size, 0, none⟩ 1 1 (ndC 5 q nm (.slice none 0 0) (.slice none 0 0) false) rfl rfl ?c1 ?c2 (by decide) ?c3 ?c4 ?c5 _ rfl ?_)
          case c1 => exact nd_cells _ _ _ _ _ _ _ _ _ _ _
          case c2 => exact nd_one _ _ _ _ _ _ _ _ _ _
          case c3 => unfold maxLen; omega
          case c4 => omega
          case c5 => simp; omega
          intro g cap w3 hown3 hg3 hat3 hlt3
          have hbel3 : Below w.heap.size w w3 := (hbel.alloc hbs _).grown hg3 (by simp; omega) (fun j hj => (hown.lt j hj).1)
          have HR3 : Hid (RowOK w3 (ownA w.heap.size w3 (.slice (some ⟨g, 0, none⟩) (ns.len + 1) cap)) 102 (ns.app (.cons 5 q nm .nil .nil false .nil)) (xs ++ ndC 5 q nm (.slice none 0 0) (.slice none 0 0) false)) :=
            row_step HR.out ((Below.refl _ _).alloc (Nat.le_refl _) _) (one_row _ _ _ _ _) hg3 (by simpa using hat3) (fun k hk => (hown.lt k hk).2) hbs
          have HO : Hid (w3.ownsRow w.heap.size 102 6 (.slice (some ⟨g, 0, none⟩) (ns.len + 1) cap) (ns.app (.cons 5 q nm .nil .nil false .nil)).len (xs ++ ndC 5 q nm (.slice none 0 0) (.slice none 0 0) false)) := by
            show World.ownsRow _ _ _ _ _ _ _
            rw [len_one]; exact hown3
          clear hown3 hg3 hat3 hown hbel
          go_wp2
          go_roundw
          case rel => exact ⟨q2, _, _, _, by omega, by omega, rfl, HX.out, HO.out, HR3.out, hbel3⟩
          case measure => simp [intOf]; omega
    · have HE := hidS (err_end s p d q ns A HF.out hlt)
      go_wp2
      go_ret3
      exact ⟨hbel, .inl ⟨s.size, rfl, HE.out⟩⟩
theorem body_all (s : ByteArray) (hs : s.size ≤ 1000) (p : Nat) (hp : p ≤ s.size) : BodyOK s p := by
  suffices h : ∀ n p, p ≤ s.size → s.size - p ≤ n → BodyOK s p from h (s.size - p) p hp (Nat.le_refl _)
  intro n
  induction n with
  | zero => exact fun p hp hn => body_ok s p hs hp (fun p' hp' => thing_ok s p' hs (fun p'' h1 h2 => by omega))
  | succ n ih => exact fun p hp hn => body_ok s p hs hp (fun p' hp' => thing_ok s p' hs (fun p'' h1 h2 => ih p'' h2 (by omega)))
end Go.Proofs.YtffkejkgkgfnhabGreat
