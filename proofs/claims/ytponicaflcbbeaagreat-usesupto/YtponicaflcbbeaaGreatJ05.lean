import Derived.Test.YtponicaflcbbeaaGreatJ04
namespace Go.Proofs.YtponicaflcbbeaaGreat
open Go.RowKit
set_option linter.unusedVariables false
def ownA (B : Nat) (w : World) (v : Value) : Nat → Prop := fun k => B ≤ k ∧ k < w.heap.size ∧ some k ≠ v.ownBlock
theorem row_step {B : Nat} {wr wa w3 : World} {lv : Value} {ns one : Nds} {xs ys : List Value} {g n c : Nat} (hr : RowOK wr (ownA B wr lv) 102 ns xs) (hb : Below wr.heap.size wr wa)
    (hone : RowOK wa (rng wr.heap.size wa.heap.size) 102 one ys) (hg : wa.grownBy w3 lv.ownBlock) (hat : lv.ownBlock = some g ∨ g = wa.heap.size) (hlv : ∀ k, lv.ownBlock = some k → k < wr.heap.size) (hB : B ≤ wr.heap.size) :
    RowOK w3 (ownA B w3 (.slice (some ⟨g, 0, none⟩) n c)) 102 (ns.app one) (xs ++ ys) := by
  have hz := hb.size
  have hz3 := hg.size
  refine RowOK.app ns one xs ys (RowOK.mono (fun k hk => ?_) (fun k hk => ?_) ns xs hr) (RowOK.mono (fun k hk => ?_) (fun k hk => ?_) one ys hone)
  · obtain ⟨h1, h2, h3⟩ := hk
    rw [hg.block k (by omega) h3, hb.block k h2]
  · obtain ⟨h1, h2, h3⟩ := hk
    refine ⟨h1, by omega, ?_⟩
    rcases hat with h | h
    · rw [h] at h3; exact h3
    · simp [Value.ownBlock]; omega
  · obtain ⟨h1, h2⟩ := hk
    refine hg.block k h2 ?_
    intro e
    have := hlv k e.symm
    omega
  · obtain ⟨h1, h2⟩ := hk
    refine ⟨by omega, by omega, ?_⟩
    simp only [Value.ownBlock, ne_eq, Option.some.injEq]
    rcases hat with h | h
    · have := hlv g h; omega
    · omega
theorem Flat.len {s : ByteArray} {d p e : Nat} {a : Nds} {A : List Ak} (h : Flat s d a p A e) : a.len + p ≤ e := by
  induction h with
  | nil d p => simp [Nds.len]
  | text h _ ih => simp only [Nds.len]; omega
  | @hole d p e r A h _ ih => have := act_next s p (by omega); simp only [Nds.len]; omega
  | @call d p e r A h _ ih => have := act_next s p (by omega); simp only [Nds.len]; omega
  | @loop d p e e1 th r A1 A hd h k1 h1 k2 ih1 ih => have := act_next s p (by omega); have := act_next s e1 (by omega); simp only [Nds.len]; omega
  | @one d p e e1 th r A1 A hd h k1 h1 k2 ih1 ih => have := act_next s p (by omega); have := act_next s e1 (by omega); simp only [Nds.len]; omega
  | @two d p e e1 e2 th el r A1 A2 A hd h k1 h1 k2 h2 k3 ih1 ih2 ih => have := act_next s p (by omega); have := act_next s e1 (by omega); have := act_next s e2 (by omega); simp only [Nds.len]; omega
theorem info121 : (Tryz.prog.info? 102).map (fun i => (i.zero, i.size, i.bytes)) = some (some (.agg #[.int .i64 0, .int .i64 0, .string ⟨#[]⟩, .slice none 0 0, .slice none 0 0, .bool false]), 6, 88) := by kernel_rfl
theorem nd_cells (w : World) (k a : Int) (nm : ByteArray) (ta ea : Option Addr) (tn tc en ec : Nat) (two : Bool) : ∀ (j : Nat) (u : Value), (ndC k a nm (.slice ta tn tc) (.slice ea en ec) two)[j]? = some u →
    (w.alloc (.cells #[.int .i64 k, .int .i64 a, .string nm, .slice ta tn tc, .slice ea en ec, .bool two] 102)).cell? ((⟨w.heap.size, 0, none⟩ : Addr).add j) = some u := by
  intro j u hj
  match j, hj with
  | 0, hj => simp [ndC] at hj; subst hj; simp [Addr.add]
  | 1, hj => simp [ndC] at hj; subst hj; simp [Addr.add]
  | 2, hj => simp [ndC] at hj; subst hj; simp [Addr.add]
  | 3, hj => simp [ndC] at hj; subst hj; simp [Addr.add]
  | 4, hj => simp [ndC] at hj; subst hj; simp [Addr.add]
  | 5, hj => simp [ndC] at hj; subst hj; simp [Addr.add]
  | j + 6, hj => simp [ndC] at hj
theorem nd_one (k a : Int) (nm : ByteArray) (ta ea : Option Addr) (tn tc en ec : Nat) (two : Bool) : ∀ u ∈ ndC k a nm (.slice ta tn tc) (.slice ea en ec) two, u.oneCell' = true := by
  intro u hu
  simp [ndC] at hu
  rcases hu with rfl | rfl | rfl | rfl | rfl | rfl <;> rfl
theorem one_row (w : World) (A : Nat → Prop) (k a : Int) (nm : ByteArray) : RowOK w A 102 (.cons k a nm .nil .nil false .nil) (ndC k a nm (.slice none 0 0) (.slice none 0 0) false) :=
  ⟨_, _, [], by simp, .inl ⟨rfl, rfl, rfl⟩, .inl ⟨rfl, rfl, rfl⟩, rfl⟩
theorem nd_cells2 (w : World) (o : Obj) (k a : Int) (nm : ByteArray) (ta ea : Option Addr) (tn tc en ec : Nat) (two : Bool) : ∀ (j : Nat) (u : Value), (ndC k a nm (.slice ta tn tc) (.slice ea en ec) two)[j]? = some u →
    ((w.alloc o).alloc (.cells #[.int .i64 k, .int .i64 a, .string nm, .slice ta tn tc, .slice ea en ec, .bool two] 102)).cell? ((⟨w.heap.size + 1, 0, none⟩ : Addr).add j) = some u := by
  intro j u hj
  have := nd_cells (w.alloc o) k a nm ta ea tn tc en ec two j u hj
  rw [World.size_alloc] at this
  exact this
theorem own_below {w w' : World} {base : Nat} {e : TypeId} {size : Nat} {v : Value} {n : Nat} {xs : List Value} (h : w.ownsRow base e size v n xs) (hb : Below w.heap.size w w') : w'.ownsRow base e size v n xs :=
  h.kept (row := none) ⟨hb.os, hb.tape, hb.output, hb.size, fun k hk _ => hb.block k hk⟩ (Classical.em _)
theorem heap_two (w : World) (o o' : Obj) (k : Nat) (h : k < w.heap.size) : ((w.alloc o).alloc o').heap[k]? = w.heap[k]? := by
  rw [Below.heap_alloc _ _ _ (by simp; omega), Below.heap_alloc _ _ _ h]
theorem one_row2 (w : World) (A : Nat → Prop) (k a : Int) (nm : ByteArray) (tv ev : Value) (th el : Nds) (two : Bool) (h1 : Slc w A 102 tv th) (h2 : Slc w A 102 ev el) : RowOK w A 102 (.cons k a nm th el two .nil) (ndC k a nm tv ev two) :=
  ⟨_, _, [], by simp, h1, h2, rfl⟩
theorem len_one (ns : Nds) (k a : Int) (nm : ByteArray) (th el : Nds) (two : Bool) : (ns.app (.cons k a nm th el two .nil)).len = ns.len + 1 := by rw [Nds.len_app]; rfl
theorem err_here (s : ByteArray) (p d q wr : Nat) (ns : Nds) (A : List Ak) (hf : Flat s d ns p A q) (h : ∀ nt op acts, stepC s ⟨q, true, nt, op, acts⟩ = .err wr) : EndsErr s p d wr := by
  intro nt op acts ho
  exact Ends.of (hf.reach nt op acts ho) (ends_err (h nt op _))
theorem err_end (s : ByteArray) (p d q : Nat) (ns : Nds) (A : List Ak) (hf : Flat s d ns p A q) (hq : ¬ q < s.size) : EndsErr s p d s.size :=
  err_here s p d q s.size ns A hf (fun nt op acts => by simp [stepC, hq])
theorem err_bad (s : ByteArray) (p d q : Nat) (ns : Nds) (A : List Ak) (hf : Flat s d ns p A q) (hq : q < s.size) (ht : txB (gb s q) = false) (hk : (act s q).kind = 0 ∨ (act s q).kind = 1) : EndsErr s p d q :=
  err_here s p d q q ns A hf (fun nt op acts => step_err s q nt op acts true hq (fun _ => ht) (by rcases hk with h | h <;> rw [h] <;> simp [takeS]))
theorem err_on (s : ByteArray) (p d q wr : Nat) (ns : Nds) (A : List Ak) (hf : Flat s d ns p A q) (h : EndsErr s q d wr) : EndsErr s p d wr := by
  intro nt op acts ho
  exact Ends.of (hf.reach nt op acts ho) (h nt op _ ho)
theorem own_slc {B : Nat} {w : World} {v : Value} {ns : Nds} {xs : List Value} (h : w.ownsRow B 102 6 v ns.len xs) (hr : RowOK w (ownA B w v) 102 ns xs) : Slc w (rng B w.heap.size) 102 v ns :=
  Slc.ofOwn h (fun g hg => h.lt g hg) (RowOK.mono (fun _ _ => rfl) (fun k hk => ⟨hk.1, hk.2.1⟩) ns xs hr)
theorem own_form {B : Nat} {w : World} {v : Value} {n : Nat} {xs : List Value} (h : w.ownsRow B 102 6 v n xs) : ∃ a c, v = .slice a n c := by
  rcases h.2 with ⟨rfl, rfl⟩ | ⟨g, cap, cur, rfl, _⟩
  · exact ⟨_, _, rfl⟩
  · exact ⟨_, _, rfl⟩
set_option maxRecDepth 100000 in
set_option maxHeartbeats 8000000 in
theorem body_ok (s : ByteArray) (p : Nat) (hs : s.size ≤ 1000) (hp : p ≤ s.size) (ht : ∀ p', p ≤ p' → ThingOK s p') : BodyOK s p := by
  intro d w hd
  obtain ⟨i0, hi, hz0, hz1, hz2⟩ := info_parts info121
  have HT := hidS ht
  clear ht
  go_enter Tryz.func56, Tryz.ntmps56
  go_wp2
  go_loopw [1, 9, 10, 11, 12, 13, 14, 15, 16] (fun pv lv _ _ _ _ _ _ _ wr => ∃ (q : Nat) (ns : Nds) (A : List Ak) (xs : List Value), p ≤ q ∧ q ≤ s.size ∧ pv = .int .i64 q ∧ Hid (Flat s d ns p A q) ∧ wr.ownsRow w.heap.size 102 6 lv ns.len xs ∧ RowOK wr (ownA w.heap.size wr lv) 102 ns xs ∧ Below w.heap.size w wr) (fun pv _ _ _ _ _ _ _ _ _ => s.size - (intOf pv).toNat)
  case atStart => exact ⟨p, .nil, [], [], Nat.le_refl _, hp, rfl, Flat.nil d p, World.ownsRow_nil _ _ _ _, rfl, Below.refl _ _⟩
  case round =>
    obtain ⟨q, ns, A, xs, hpq, hq, rfl, HF, hown, hrow, hbel⟩ := hrel
    have HR := hidS hrow
    have HFl := hidS HF.out.len
    clear hrow
    have hnl : ns.len ≤ 1000 := by have := HFl.out; omega
    have hbs := hbel.size
    by_cases hlt : q < s.size
    · by_cases htx : q < skp s txB q
      · have hle := skp_le s txB q (by omega)
        have Hw := hidS (c99 s q wr hs (by omega))
        have HX := hidS (Flat.app HF.out (Flat.text htx (Flat.nil d (skp s txB q))))
        generalize skp s txB q = q2 at *
        go_wp2_with (first | (go_at_call 81; refine Hw.out.mono ?_; rintro e w' ⟨rfl, hw⟩; obtain rfl := hw.symm) | (at_builtin; refine wpList_append_lies _ rfl _ _ 70 rfl w.heap.size 102 i0 (.agg #[.int .i64 0, .int .i64 0, .string ⟨#[]⟩, .slice none 0 0, .slice none 0 0, .bool false]) 6 88 Tryz.underlying70 hi hz0 hz1 hz2 rfl (by decide) _ _ _ rfl (hown.alloc _) ⟨wr.heap.size, 0, none⟩ 1 1 (ndC 1 q (s.extract q q2) (.slice none 0 0) (.slice none 0 0) false) rfl rfl ?c1 ?c2 (by decide) ?c3 ?c4 ?c5 _ rfl ?_))
        case c1 => exact nd_cells _ _ _ _ _ _ _ _ _ _ _
        case c2 => exact nd_one _ _ _ _ _ _ _ _ _ _
        case c3 => unfold maxLen; omega
        case c4 => omega
        case c5 => simp; omega
        intro g cap w3 hown3 hg3 hat3 hlt3
        have hbel3 : Below w.heap.size w w3 := (hbel.alloc hbs _).grown hg3 (by simp; omega) (fun j hj => (hown.lt j hj).1)
        have HR3 : Hid (RowOK w3 (ownA w.heap.size w3 (.slice (some ⟨g, 0, none⟩) (ns.len + 1) cap)) 102 (ns.app (.cons 1 q (s.extract q q2) .nil .nil false .nil)) (xs ++ ndC 1 q (s.extract q q2) (.slice none 0 0) (.slice none 0 0) false)) :=
          row_step HR.out ((Below.refl _ _).alloc (Nat.le_refl _) _) (one_row _ _ _ _ _) hg3 (by simpa using hat3) (fun k hk => (hown.lt k hk).2) hbs
        have HO : Hid (w3.ownsRow w.heap.size 102 6 (.slice (some ⟨g, 0, none⟩) (ns.len + 1) cap) (ns.app (.cons 1 q (s.extract q q2) .nil .nil false .nil)).len (xs ++ ndC 1 q (s.extract q q2) (.slice none 0 0) (.slice none 0 0) false)) := by
          show World.ownsRow _ _ _ _ _ _ _
          rw [len_one]; exact hown3
        clear hown3 hg3 hat3 hown hbel
        go_wp2
        go_roundw
        case rel => exact ⟨q2, _, _, _, by omega, by omega, rfl, HX.out, HO.out, HR3.out, hbel3⟩
        case measure => simp [intOf]; omega
      · have hsk : skp s txB q = q := by have := skp_ge s txB q; omega
        have Htb : Hid (txB (gb s q) = false) := by
          have := skp_at s txB q (by omega)
          rw [hsk] at this; exact this
        have Hw : Hid (∀ w, Calls Tryz.prog 81 #[.string s, .int .i64 q] w fun e w' => e = .returned (.int .i64 q) ∧ w' = w) := by
          intro w
          have := c99 s q w hs (by omega)
          rw [hsk] at this
          exact this
        clear htx hsk
        have hkr := act_range s q
        have Ha := hidS (c83 s q)
        go_wp2_with (go_at_call 81; refine (Hw.out _).mono ?_; rintro e w' ⟨rfl, hw⟩; obtain rfl := hw.symm)
        refine (Ha.out _ (by omega) (by omega)).mono ?_
        rintro e w1 ⟨rfl, n, hw1⟩
        have hown1 : w1.ownsRow w.heap.size 102 6 u9 ns.len xs := by rw [hw1]; exact hown
        have HR1 : Hid (RowOK w1 (ownA w.heap.size w1 u9) 102 ns xs) := by rw [hw1]; exact RowOK.mono (w := wr) (w' := wr.drewN n) (A := ownA w.heap.size wr u9) (A' := ownA w.heap.size (wr.drewN n) u9) (fun _ _ => rfl) (fun _ h => ⟨h.1, h.2.1, h.2.2⟩) ns xs HR.out
        have hbel1 : Below w.heap.size w w1 := by rw [hw1]; exact below_drewN hbel n
        clear hown HR hbel hw1 hbs wr
        have hown := hown1
        have HR := HR1
        have hbel := hbel1
        clear hown1 HR1 hbel1
        have hbs := hbel.size
        obtain hk | hk | hk | hk | hk | hk | hk | hk | hk : (act s q).kind = 0 ∨ (act s q).kind = 1 ∨ (act s q).kind = 2 ∨ (act s q).kind = 3 ∨ (act s q).kind = 4 ∨ (act s q).kind = 5 ∨ (act s q).kind = 6 ∨ (act s q).kind = 7 ∨ (act s q).kind = 8 := by omega
        · rw [ra_lit s q 0 0 hk rfl]
          have HE := hidS (err_bad s p d q ns A HF.out hlt Htb.out (by omega))
          clear hk hkr hown
          go_wp2
          go_ret3
          exact ⟨hbel, .inl ⟨q, rfl, HE.out⟩⟩
        · rw [ra_lit s q 1 43 hk rfl]
          have HE := hidS (err_bad s p d q ns A HF.out hlt Htb.out (by omega))
          clear hk hkr hown
          go_wp2
          go_ret3
          exact ⟨hbel, .inl ⟨q, rfl, HE.out⟩⟩
        · rw [ra_lit s q 2 45 hk rfl]
          obtain ⟨fa, fc, hfv⟩ := own_form hown
          have HS := hidS (own_slc hown HR.out)
          have HKt : Hid (termK (act s q).kind) := by show termK _; unfold termK; omega
          clear hk hkr hown HR
          go_wp2
          go_ret3
          subst hfv
          exact ⟨hbel, .inr ⟨fa, ns.len, fc, ns, A, q, rfl, HF.out, hlt, HKt.out, HS.out⟩⟩
        · rw [ra_lit s q 3 32 hk rfl]
          obtain ⟨m1, m2, _, _⟩ := act_next s q (by omega)
          have HX := hidS (Flat.app HF.out (Flat.hole hk (Flat.nil d (act s q).next)))
          clear hk hkr Ha
          generalize (act s q).next = q2 at *
          generalize (act s q).name = nm at *
          go_wp2_with (at_builtin; refine wpList_append_lies _ rfl _ _ 70 rfl w.heap.size 102 i0 (.agg #[.int .i64 0, .int .i64 0, .string ⟨#[]⟩, .slice none 0 0, .slice none 0 0, .bool false]) 6 88 Tryz.underlying70 hi hz0 hz1 hz2 rfl (by decide) _ _ _ rfl (hown.alloc _) ⟨w1.heap.size, 0, none⟩ 1 1 (ndC 2 q nm (.slice none 0 0) (.slice none 0 0) false) rfl rfl ?c1 ?c2 (by decide) ?c3 ?c4 ?c5 _ rfl ?_)
          case c1 => exact nd_cells _ _ _ _ _ _ _ _ _ _ _
          case c2 => exact nd_one _ _ _ _ _ _ _ _ _ _
          case c3 => unfold maxLen; omega
          case c4 => omega
          case c5 => simp; omega
          intro g cap w3 hown3 hg3 hat3 hlt3
          have hbel3 : Below w.heap.size w w3 := (hbel.alloc hbs _).grown hg3 (by simp; omega) (fun j hj => (hown.lt j hj).1)
          have HR3 : Hid (RowOK w3 (ownA w.heap.size w3 (.slice (some ⟨g, 0, none⟩) (ns.len + 1) cap)) 102 (ns.app (.cons 2 q nm .nil .nil false .nil)) (xs ++ ndC 2 q nm (.slice none 0 0) (.slice none 0 0) false)) :=
            row_step HR.out ((Below.refl _ _).alloc (Nat.le_refl _) _) (one_row _ _ _ _ _) hg3 (by simpa using hat3) (fun k hk => (hown.lt k hk).2) hbs
          have HO : Hid (w3.ownsRow w.heap.size 102 6 (.slice (some ⟨g, 0, none⟩) (ns.len + 1) cap) (ns.app (.cons 2 q nm .nil .nil false .nil)).len (xs ++ ndC 2 q nm (.slice none 0 0) (.slice none 0 0) false)) := by
            show World.ownsRow _ _ _ _ _ _ _
            rw [len_one]; exact hown3
          clear hown3 hg3 hat3 hown hbel
          go_wp2
          go_roundw
          case rel => exact ⟨q2, _, _, _, by omega, by omega, rfl, HX.out, HO.out, HR3.out, hbel3⟩
          case measure => simp [intOf]; omega
        · rw [ra_lit s q 4 63 hk rfl]
          have Ht := hidS (HT.out q hpq d w1 hd (by omega))
          clear hk hkr Ha
          go_wp2_with fail
          refine Ht.out.mono ?_
          rintro e w2 ⟨hb2, hor⟩
          have hown2 : w2.ownsRow w.heap.size 102 6 u9 ns.len xs := own_below hown hb2
          have hbel2 := hbel.trans (hb2.mono hbs)
          have hbs2 := hb2.size
          rcases hor with ⟨xk, xa, nm, ta, ea, tn, tc, en, ec, two, er, rfl, hE⟩ | ⟨xk, nm, ta, ea, tn, tc, en, ec, two, th, el, A2, q2, rfl, hF2, hq2, hpq2, hS1, hS2⟩
          · have HE := hidS (err_on s p d q er ns A HF.out hE)
            clear hE hown hown2 hbel hb2 Ht
            go_wp2
            go_ret3
            exact ⟨hbel2.alloc (by omega) _, .inl ⟨er, rfl, HE.out⟩⟩
          · have HX := hidS (Flat.app HF.out hF2)
            have HS1 := hidS hS1
            have HS2 := hidS hS2
            have HB2 := hidS hb2
            have HL := hidS (fun k hk => (hown.lt k hk).2)
            clear hF2 hS1 hS2 hb2 hown hbel Ht
            go_wp2_with (at_builtin; refine wpList_append_lies _ rfl _ _ 70 rfl w.heap.size 102 i0 (.agg #[.int .i64 0, .int .i64 0, .string ⟨#[]⟩, .slice none 0 0, .slice none 0 0, .bool false]) 6 88 Tryz.underlying70 hi hz0 hz1 hz2 rfl (by decide) _ _ _ rfl ((hown2.alloc _).alloc _) ⟨w2.heap.size + 1, 0, none⟩ 1 1 (ndC xk q nm (.slice ta tn tc) (.slice ea en ec) two) rfl rfl ?c1 ?c2 (by decide) ?c3 ?c4 ?c5 _ rfl ?_)
            case c1 => exact nd_cells2 _ _ _ _ _ _ _ _ _ _ _ _
            case c2 => exact nd_one _ _ _ _ _ _ _ _ _ _
            case c3 => unfold maxLen; omega
            case c4 => omega
            case c5 => simp; omega
            intro g cap w3 hown3 hg3 hat3 hlt3
            have hbel3 : Below w.heap.size w w3 := ((hbel2.alloc (by omega) _).alloc (by simp; omega) _).grown hg3 (by simp; omega) (fun j hj => (hown2.lt j hj).1)
            have HR3 : Hid (RowOK w3 (ownA w.heap.size w3 (.slice (some ⟨g, 0, none⟩) (ns.len + 1) cap)) 102 (ns.app (.cons xk q nm th el two .nil)) (xs ++ ndC xk q nm (.slice ta tn tc) (.slice ea en ec) two)) :=
              row_step HR.out (((HB2.out).alloc hbs2 _).alloc (by simp; omega) _) (one_row2 _ _ _ _ _ _ _ _ _ _ (HS1.out.mono (fun k hk => heap_two _ _ _ k hk.2) (fun k hk => ⟨hk.1, by have := hk.2; simp; omega⟩)) (HS2.out.mono (fun k hk => heap_two _ _ _ k hk.2) (fun k hk => ⟨hk.1, by have := hk.2; simp; omega⟩))) hg3 (by simpa using hat3) HL.out hbs
            have HO : Hid (w3.ownsRow w.heap.size 102 6 (.slice (some ⟨g, 0, none⟩) (ns.len + 1) cap) (ns.app (.cons xk q nm th el two .nil)).len (xs ++ ndC xk q nm (.slice ta tn tc) (.slice ea en ec) two)) := by
              show World.ownsRow _ _ _ _ _ _ _
              rw [len_one]; exact hown3
            clear hown3 hg3 hat3 hown2 hbel2
            go_wp2
            go_roundw
            case rel => exact ⟨q2, _, _, _, by omega, by omega, rfl, HX.out, HO.out, HR3.out, hbel3⟩
            case measure => simp [intOf]; omega
        · rw [ra_lit s q 5 58 hk rfl]
          obtain ⟨fa, fc, hfv⟩ := own_form hown
          have HS := hidS (own_slc hown HR.out)
          have HKt : Hid (termK (act s q).kind) := by show termK _; unfold termK; omega
          clear hk hkr hown HR
          go_wp2
          go_ret3
          subst hfv
          exact ⟨hbel, .inr ⟨fa, ns.len, fc, ns, A, q, rfl, HF.out, hlt, HKt.out, HS.out⟩⟩
        · rw [ra_lit s q 6 42 hk rfl]
          have Ht := hidS (HT.out q hpq d w1 hd (by omega))
          clear hk hkr Ha
          go_wp2_with fail
          refine Ht.out.mono ?_
          rintro e w2 ⟨hb2, hor⟩
          have hown2 : w2.ownsRow w.heap.size 102 6 u9 ns.len xs := own_below hown hb2
          have hbel2 := hbel.trans (hb2.mono hbs)
          have hbs2 := hb2.size
          rcases hor with ⟨xk, xa, nm, ta, ea, tn, tc, en, ec, two, er, rfl, hE⟩ | ⟨xk, nm, ta, ea, tn, tc, en, ec, two, th, el, A2, q2, rfl, hF2, hq2, hpq2, hS1, hS2⟩
          · have HE := hidS (err_on s p d q er ns A HF.out hE)
            clear hE hown hown2 hbel hb2 Ht
            go_wp2
            go_ret3
            exact ⟨hbel2.alloc (by omega) _, .inl ⟨er, rfl, HE.out⟩⟩
          · have HX := hidS (Flat.app HF.out hF2)
            have HS1 := hidS hS1
            have HS2 := hidS hS2
            have HB2 := hidS hb2
            have HL := hidS (fun k hk => (hown.lt k hk).2)
            clear hF2 hS1 hS2 hb2 hown hbel Ht
            go_wp2_with (at_builtin; refine wpList_append_lies _ rfl _ _ 70 rfl w.heap.size 102 i0 (.agg #[.int .i64 0, .int .i64 0, .string ⟨#[]⟩, .slice none 0 0, .slice none 0 0, .bool false]) 6 88 Tryz.underlying70 hi hz0 hz1 hz2 rfl (by decide) _ _ _ rfl ((hown2.alloc _).alloc _) ⟨w2.heap.size + 1, 0, none⟩ 1 1 (ndC xk q nm (.slice ta tn tc) (.slice ea en ec) two) rfl rfl ?c1 ?c2 (by decide) ?c3 ?c4 ?c5 _ rfl ?_)
            case c1 => exact nd_cells2 _ _ _ _ _ _ _ _ _ _ _ _
            case c2 => exact nd_one _ _ _ _ _ _ _ _ _ _
            case c3 => unfold maxLen; omega
            case c4 => omega
            case c5 => simp; omega
            intro g cap w3 hown3 hg3 hat3 hlt3
            have hbel3 : Below w.heap.size w w3 := ((hbel2.alloc (by omega) _).alloc (by simp; omega) _).grown hg3 (by simp; omega) (fun j hj => (hown2.lt j hj).1)
            have HR3 : Hid (RowOK w3 (ownA w.heap.size w3 (.slice (some ⟨g, 0, none⟩) (ns.len + 1) cap)) 102 (ns.app (.cons xk q nm th el two .nil)) (xs ++ ndC xk q nm (.slice ta tn tc) (.slice ea en ec) two)) :=
              row_step HR.out (((HB2.out).alloc hbs2 _).alloc (by simp; omega) _) (one_row2 _ _ _ _ _ _ _ _ _ _ (HS1.out.mono (fun k hk => heap_two _ _ _ k hk.2) (fun k hk => ⟨hk.1, by have := hk.2; simp; omega⟩)) (HS2.out.mono (fun k hk => heap_two _ _ _ k hk.2) (fun k hk => ⟨hk.1, by have := hk.2; simp; omega⟩))) hg3 (by simpa using hat3) HL.out hbs
            have HO : Hid (w3.ownsRow w.heap.size 102 6 (.slice (some ⟨g, 0, none⟩) (ns.len + 1) cap) (ns.app (.cons xk q nm th el two .nil)).len (xs ++ ndC xk q nm (.slice ta tn tc) (.slice ea en ec) two)) := by
              show World.ownsRow _ _ _ _ _ _ _
              rw [len_one]; exact hown3
            clear hown3 hg3 hat3 hown2 hbel2
            go_wp2
            go_roundw
            case rel => exact ⟨q2, _, _, _, by omega, by omega, rfl, HX.out, HO.out, HR3.out, hbel3⟩
            case measure => simp [intOf]; omega
        · rw [ra_lit s q 7 47 hk rfl]
          obtain ⟨fa, fc, hfv⟩ := own_form hown
          have HS := hidS (own_slc hown HR.out)
          have HKt : Hid (termK (act s q).kind) := by show termK _; unfold termK; omega
          clear hk hkr hown HR
          go_wp2
          go_ret3
          subst hfv
          exact ⟨hbel, .inr ⟨fa, ns.len, fc, ns, A, q, rfl, HF.out, hlt, HKt.out, HS.out⟩⟩
        · rw [ra_lit s q 8 62 hk rfl]
          obtain ⟨m1, m2, _, _⟩ := act_next s q (by omega)
          have HX := hidS (Flat.app HF.out (Flat.call hk (Flat.nil d (act s q).next)))
          clear hk hkr Ha
          generalize (act s q).next = q2 at *
          generalize (act s q).name = nm at *
          go_wp2_with (at_builtin; refine wpList_append_lies _ rfl _ _ 70 rfl w.heap.size 102 i0 (.agg #[.int .i64 0, .int .i64 0, .string ⟨#[]⟩, .slice none 0 0, .slice none 0 0, .bool false]) 6 88 Tryz.underlying70 hi hz0 hz1 hz2 rfl (by decide) _ _ _ rfl (hown.alloc _) ⟨w1.heap.size, 0, none⟩ 1 1 (ndC 5 q nm (.slice none 0 0) (.slice none 0 0) false) rfl rfl ?c1 ?c2 (by decide) ?c3 ?c4 ?c5 _ rfl ?_)
          case c1 => exact nd_cells _ _ _ _ _ _ _ _ _ _ _
          case c2 => exact nd_one _ _ _ _ _ _ _ _ _ _
          case c3 => unfold maxLen; omega
          case c4 => omega
          case c5 => simp; omega
          intro g cap w3 hown3 hg3 hat3 hlt3
          have hbel3 : Below w.heap.size w w3 := (hbel.alloc hbs _).grown hg3 (by simp; omega) (fun j hj => (hown.lt j hj).1)
          have HR3 : Hid (RowOK w3 (ownA w.heap.size w3 (.slice (some ⟨g, 0, none⟩) (ns.len + 1) cap)) 102 (ns.app (.cons 5 q nm .nil .nil false .nil)) (xs ++ ndC 5 q nm (.slice none 0 0) (.slice none 0 0) false)) :=
            row_step HR.out ((Below.refl _ _).alloc (Nat.le_refl _) _) (one_row _ _ _ _ _) hg3 (by simpa using hat3) (fun k hk => (hown.lt k hk).2) hbs
          have HO : Hid (w3.ownsRow w.heap.size 102 6 (.slice (some ⟨g, 0, none⟩) (ns.len + 1) cap) (ns.app (.cons 5 q nm .nil .nil false .nil)).len (xs ++ ndC 5 q nm (.slice none 0 0) (.slice none 0 0) false)) := by
            show World.ownsRow _ _ _ _ _ _ _
            rw [len_one]; exact hown3
          clear hown3 hg3 hat3 hown hbel
          go_wp2
          go_roundw
          case rel => exact ⟨q2, _, _, _, by omega, by omega, rfl, HX.out, HO.out, HR3.out, hbel3⟩
          case measure => simp [intOf]; omega
    · have HE := hidS (err_end s p d q ns A HF.out hlt)
      go_wp2
      go_ret3
      exact ⟨hbel, .inl ⟨s.size, rfl, HE.out⟩⟩
theorem body_all (s : ByteArray) (hs : s.size ≤ 1000) (p : Nat) (hp : p ≤ s.size) : BodyOK s p := by
  suffices h : ∀ n p, p ≤ s.size → s.size - p ≤ n → BodyOK s p from h (s.size - p) p hp (Nat.le_refl _)
  intro n
  induction n with
  | zero => exact fun p hp hn => body_ok s p hs hp (fun p' hp' => thing_ok s p' hs (fun p'' h1 h2 => by omega))
  | succ n ih => exact fun p hp hn => body_ok s p hs hp (fun p' hp' => thing_ok s p' hs (fun p'' h1 h2 => ih p'' h2 (by omega)))
end Go.Proofs.YtponicaflcbbeaaGreat
namespace Go.Proofs.YtponicaflcbbeaaGreat
open Go.RowKit
set_option linter.unusedVariables false
structure Tm where
  name : ByteArray
  at' : Nat
  body : Nds
def RowT (w : World) (A : Nat → Prop) : List Tm → List Value → Prop
  | [] => fun xs => xs = []
  | t :: r => fun xs => ∃ (a : Option Addr) (n c : Nat) (ys : List Value), xs = [Value.string t.name, .int .i64 t.at', .slice a n c] ++ ys ∧ Slc w A 102 (.slice a n c) t.body ∧ RowT w A r ys
theorem RowT.mono {w w' : World} {A A' : Nat → Prop} (hw : ∀ k, A k → w'.heap[k]? = w.heap[k]?) (hA : ∀ k, A k → A' k) : ∀ (ts : List Tm) (xs : List Value), RowT w A ts xs → RowT w' A' ts xs
  | [], xs, h => h
  | t :: r, xs, h => by
    obtain ⟨a, n, c, ys, h1, h2, h3⟩ := h
    exact ⟨a, n, c, ys, h1, h2.mono hw hA, RowT.mono hw hA r ys h3⟩
theorem RowT.app {w : World} {A : Nat → Prop} : ∀ (ts us : List Tm) (xs ys : List Value), RowT w A ts xs → RowT w A us ys → RowT w A (ts ++ us) (xs ++ ys)
  | [], us, xs, ys, h, k => by
    have h' : xs = [] := h
    subst h'; simpa using k
  | t :: r, us, xs, ys, h, k => by
    obtain ⟨a, n, c, zs, rfl, h2, h3⟩ := h
    exact ⟨a, n, c, zs ++ ys, by simp, h2, RowT.app r us zs ys h3 k⟩
theorem RowT.len {w : World} {A : Nat → Prop} : ∀ (ts : List Tm) (xs : List Value), RowT w A ts xs → xs.length = ts.length * 3
  | [], xs, h => by
    have h' : xs = [] := h
    subst h'; rfl
  | t :: r, xs, h => by
    obtain ⟨a, n, c, ys, rfl, _, h3⟩ := h
    have := RowT.len r ys h3
    simp [this]; omega
inductive TFlat (s : ByteArray) : List Tm → List Ak → Nat → Prop where
  | nil : TFlat s [] [] 0
  | snoc {ts : List Tm} {A B : List Ak} {p e : Nat} {b : Nds} (h : TFlat s ts A p) (hl : ts.length < 6) (hk : (act s p).kind = 1) (hb : Flat s 0 b (act s p).next B e) (he : (act s e).kind = 2) :
      TFlat s (ts ++ [⟨(act s p).name, p, b⟩]) (A ++ ⟨1, (act s p).name, p⟩ :: (B ++ [⟨2, (act s e).name, e⟩])) (act s e).next
theorem TFlat.zero {s : ByteArray} {ts : List Tm} {A : List Ak} {p : Nat} (h : TFlat s ts A p) : (p = 0 ∧ ts = [] ∧ A = []) ∨ (0 < p ∧ ts ≠ []) := by
  cases h with
  | nil => exact .inl ⟨rfl, rfl, rfl⟩
  | @snoc ts A B p e b h hl hk hb he => right; have := act_next s e (by omega); exact ⟨by omega, by simp⟩
theorem TFlat.reach {s : ByteArray} {ts : List Tm} {A : List Ak} {p : Nat} (h : TFlat s ts A p) : Reach s init ⟨p, false, ts.length, [], A⟩ := by
  induction h with
  | nil => exact .refl _
  | @snoc ts A B p e b h hl hk hb he ih =>
    have s1 := step_act s p ts.length [] A true (ts.length + 1) [] false (by omega) (by rw [hk]; simp [takeS, hl])
    rw [hk] at s1
    have r1 := hb.reach (ts.length + 1) [] (A ++ [⟨1, (act s p).name, p⟩]) rfl
    have s2 := step_act s e (ts.length + 1) [] (A ++ [⟨1, (act s p).name, p⟩] ++ B) false (ts.length + 1) [] true (by omega) (by rw [he]; simp [takeS])
    rw [he] at s2
    have := ih.trans (.step s1 (r1.trans (.step s2 (.refl _))))
    simpa [List.append_assoc] using this
theorem terr_begin (s : ByteArray) (ts : List Tm) (A : List Ak) (q : Nat) (h : TFlat s ts A q) (hq : q ≤ s.size) (hk : (act s q).kind ≠ 1 ∨ ¬ ts.length < 6) (h0 : q < s.size ∨ q = 0) : Ends s init (.err q) := by
  refine Ends.of h.reach (ends_err ?_)
  by_cases hlt : q < s.size
  · refine step_err s q ts.length [] A false hlt (fun h => by cases h) ?_
    simp only [takeS, if_true]; rw [if_neg (by omega)]
  · have : q = 0 := by omega
    subst this
    rcases h.zero with ⟨_, rfl, rfl⟩ | ⟨h1, _⟩
    · have e0 : s.size = 0 := by omega
      simp [stepC, e0]
    · omega
theorem treach_in (s : ByteArray) (ts : List Tm) (A : List Ak) (q : Nat) (h : TFlat s ts A q) (hk : (act s q).kind = 1) (hl : ts.length < 6) : ∃ acts, Reach s init ⟨(act s q).next, true, ts.length + 1, [], acts⟩ := by
  have s1 := step_act s q ts.length [] A true (ts.length + 1) [] false (by omega) (by rw [hk]; simp [takeS, hl])
  exact ⟨_, h.reach.trans (Reach.one s1)⟩
theorem terr_in (s : ByteArray) (ts : List Tm) (A : List Ak) (q wr : Nat) (h : TFlat s ts A q) (hk : (act s q).kind = 1) (hl : ts.length < 6) (hE : EndsErr s (act s q).next 0 wr) : Ends s init (.err wr) := by
  obtain ⟨acts, r⟩ := treach_in s ts A q h hk hl
  exact Ends.of r (hE _ _ _ rfl)
theorem terr_term (s : ByteArray) (ts : List Tm) (A B : List Ak) (q e : Nat) (b : Nds) (h : TFlat s ts A q) (hk : (act s q).kind = 1) (hl : ts.length < 6) (hb : Flat s 0 b (act s q).next B e) (he : (act s e).kind = 5 ∨ (act s e).kind = 7) : Ends s init (.err e) := by
  obtain ⟨acts, r⟩ := treach_in s ts A q h hk hl
  obtain ⟨_, _, h1, h2⟩ := act_next s e (by omega)
  refine Ends.of (r.trans (hb.reach _ _ _ rfl)) (ends_err (step_err s e _ _ _ true (by omega) (fun _ => by rw [h2]; decide) ?_))
  rcases he with he | he <;> rw [he] <;> simp [takeS]
theorem tfin (s : ByteArray) (ts : List Tm) (A : List Ak) (q : Nat) (h : TFlat s ts A q) (hq : ¬ q < s.size) (h0 : q ≠ 0) : Ends s init (.fin A) := by
  refine ⟨_, h.reach, ?_, trivial⟩
  rcases h.zero with ⟨h1, _⟩ | ⟨_, h1⟩
  · omega
  · have : ts.length ≠ 0 := by intro e; exact h1 (List.length_eq_zero_iff.1 e)
    simp [stepC, hq]
    intro e; exact absurd e h1
theorem rowT_step {B : Nat} {wr wa w3 : World} {lv : Value} {ts us : List Tm} {xs ys : List Value} {g n c : Nat} (hr : RowT wr (ownA B wr lv) ts xs) (hb : Below wr.heap.size wr wa)
    (hone : RowT wa (rng wr.heap.size wa.heap.size) us ys) (hg : wa.grownBy w3 lv.ownBlock) (hat : lv.ownBlock = some g ∨ g = wa.heap.size) (hlv : ∀ k, lv.ownBlock = some k → k < wr.heap.size) (hB : B ≤ wr.heap.size) :
    RowT w3 (ownA B w3 (.slice (some ⟨g, 0, none⟩) n c)) (ts ++ us) (xs ++ ys) := by
  have hz := hb.size
  have hz3 := hg.size
  refine RowT.app ts us xs ys (RowT.mono (fun k hk => ?_) (fun k hk => ?_) ts xs hr) (RowT.mono (fun k hk => ?_) (fun k hk => ?_) us ys hone)
  · obtain ⟨h1, h2, h3⟩ := hk
    rw [hg.block k (by omega) h3, hb.block k h2]
  · obtain ⟨h1, h2, h3⟩ := hk
    refine ⟨h1, by omega, ?_⟩
    rcases hat with h | h
    · rw [h] at h3; exact h3
    · simp [Value.ownBlock]; omega
  · obtain ⟨h1, h2⟩ := hk
    refine hg.block k h2 ?_
    intro e
    have := hlv k e.symm
    omega
  · obtain ⟨h1, h2⟩ := hk
    refine ⟨by omega, by omega, ?_⟩
    simp only [Value.ownBlock, ne_eq, Option.some.injEq]
    rcases hat with h | h
    · have := hlv g h; omega
    · omega
theorem info88 : (Tryz.prog.info? 72).map (fun i => (i.zero, i.size, i.bytes)) = some (some (.agg #[.string ⟨#[]⟩, .int .i64 0, .slice none 0 0]), 3, 48) := by kernel_rfl
theorem tm_cells (w : World) (nm : ByteArray) (a : Int) (ta : Option Addr) (tn tc : Nat) : ∀ (j : Nat) (u : Value), [Value.string nm, .int .i64 a, .slice ta tn tc][j]? = some u →
    (w.alloc (.cells #[.string nm, .int .i64 a, .slice ta tn tc] 72)).cell? ((⟨w.heap.size, 0, none⟩ : Addr).add j) = some u := by
  intro j u hj
  match j, hj with
  | 0, hj => simp at hj; subst hj; simp [Addr.add]
  | 1, hj => simp at hj; subst hj; simp [Addr.add]
  | 2, hj => simp at hj; subst hj; simp [Addr.add]
  | j + 3, hj => simp at hj
theorem tm_one (nm : ByteArray) (a : Int) (ta : Option Addr) (tn tc : Nat) : ∀ u ∈ [Value.string nm, .int .i64 a, .slice ta tn tc], u.oneCell' = true := by
  intro u hu
  simp at hu
  rcases hu with rfl | rfl | rfl <;> rfl
theorem heap_one (w : World) (o : Obj) (k : Nat) (h : k < w.heap.size) : (w.alloc o).heap[k]? = w.heap[k]? := Below.heap_alloc _ _ _ h
def TmplPost (s : ByteArray) (w : World) (e : Ending) (w' : World) : Prop :=
  (∃ wr : Nat, e = .returned (.tuple #[.slice none 0 0, .int .i64 wr]) ∧ Ends s init (.err wr)) ∨
  (∃ (a : Option Addr) (c : Nat) (ts : List Tm) (A : List Ak), e = .returned (.tuple #[.slice a ts.length c, .int .i64 (-1)]) ∧ TFlat s ts A s.size ∧ Ends s init (.fin A) ∧ ts.length ≤ 6 ∧ SlcX w' (rng w.heap.size w'.heap.size) 72 3 (.slice a ts.length c) ts.length (RowT w' (rng w.heap.size w'.heap.size) ts))
theorem slcT {B : Nat} {w : World} {v : Value} {ts : List Tm} {xs : List Value} (h : w.ownsRow B 72 3 v ts.length xs) (hr : RowT w (ownA B w v) ts xs) : SlcX w (rng B w.heap.size) 72 3 v ts.length (RowT w (rng B w.heap.size) ts) := by
  have hr' : RowT w (rng B w.heap.size) ts xs := RowT.mono (fun _ _ => rfl) (fun k hk => ⟨hk.1, hk.2.1⟩) ts xs hr
  rcases h.2 with ⟨rfl, h0⟩ | ⟨g, cap, cur, rfl, hb, hg, hn, hm, hs, ht⟩
  · have hx : xs = [] := List.length_eq_zero_iff.1 (by rw [h.1, h0])
    subst hx
    exact .inl ⟨rfl, h0, hr'⟩
  · exact .inr ⟨g, cap, cur, rfl, h.lt g rfl, hg, hn, hm, hs, by rw [ht]; exact hr'⟩
theorem ownT_form {B ty sz : Nat} {w : World} {v : Value} {n : Nat} {xs : List Value} (h : w.ownsRow B ty sz v n xs) : ∃ a c, v = .slice a n c := by
  rcases h.2 with ⟨rfl, rfl⟩ | ⟨g, cap, cur, rfl, _⟩
  · exact ⟨_, _, rfl⟩
  · exact ⟨_, _, rfl⟩
theorem sg_ne (k : Int) (hr : 0 ≤ k ∧ k ≤ 8) (h : k ≠ 1) : (sg k != 43) = true := by
  have : k = 0 ∨ k = 2 ∨ k = 3 ∨ k = 4 ∨ k = 5 ∨ k = 6 ∨ k = 7 ∨ k = 8 := by omega
  rcases this with rfl | rfl | rfl | rfl | rfl | rfl | rfl | rfl <;> decide
set_option maxRecDepth 100000 in
set_option maxHeartbeats 8000000 in
theorem c59 (s : ByteArray) (w : World) (hs : s.size ≤ 1000) : Calls Tryz.prog 34 #[.string s] w fun e w' => Below w.heap.size w w' ∧ TmplPost s w e w' := by
  obtain ⟨i0, hi, hz0, hz1, hz2⟩ := info_parts info88
  go_enter Tryz.func34, Tryz.ntmps34
  go_wp2
  go_loopw [4, 5, 6, 7, 8, 9, 10, 11, 12] (fun lv pv _ _ _ _ _ _ _ wr => ∃ (q : Nat) (ts : List Tm) (A : List Ak) (xs : List Value), q ≤ s.size ∧ pv = .int .i64 q ∧ Hid (TFlat s ts A q) ∧ ts.length ≤ 6 ∧ wr.ownsRow w.heap.size 72 3 lv ts.length xs ∧ RowT wr (ownA w.heap.size wr lv) ts xs ∧ Below w.heap.size w wr) (fun _ pv _ _ _ _ _ _ _ _ => s.size + 1 - (intOf pv).toNat)
  case atStart => exact ⟨0, [], [], [], Nat.zero_le _, rfl, TFlat.nil, by simp, World.ownsRow_nil _ _ _ _, rfl, Below.refl _ _⟩
  case round =>
    obtain ⟨q, ts, A, xs, hq, rfl, HF, hl6, hown, hrow, hbel⟩ := hrel
    have HR := hidS hrow
    clear hrow
    have hbs := hbel.size
    obtain ⟨fa, fc, hfv⟩ := ownT_form hown
    subst hfv
    by_cases hgo : q < s.size
    · have Ha := hidS (c83 s)
      have hg1 : (q : Int) < (s.size : Int) := by omega
      go_wp2_with fail
      refine (Ha.out q _ (by omega) (by omega)).mono ?_
      rintro e w1 ⟨rfl, n, hw1⟩
      have hown1 : w1.ownsRow w.heap.size 72 3 (.slice fa ts.length fc) ts.length xs := by rw [hw1]; exact hown
      have HR1 : Hid (RowT w1 (ownA w.heap.size w1 (.slice fa ts.length fc)) ts xs) := by rw [hw1]; exact RowT.mono (w := wr) (w' := wr.drewN n) (A := ownA w.heap.size wr (.slice fa ts.length fc)) (A' := ownA w.heap.size (wr.drewN n) (.slice fa ts.length fc)) (fun _ _ => rfl) (fun _ h => ⟨h.1, h.2.1, h.2.2⟩) ts xs HR.out
      have hbel1 : Below w.heap.size w w1 := by rw [hw1]; exact below_drewN hbel n
      clear hown HR hbel hw1 hbs wr
      have hown := hown1
      have HR := HR1
      have hbel := hbel1
      clear hown1 HR1 hbel1
      have hbs := hbel.size
      by_cases hk : (act s q).kind = 1
      · rw [ra_lit s q 1 43 hk rfl]
        have HK := hidS hk
        by_cases hl : ts.length < 6
        · have hl1 : ((ts.length : Int) == 6) = false := by simp; omega
          obtain ⟨m1, m2, _, _⟩ := act_next s q (by omega)
          have Hb := hidS (body_all s hs (act s q).next m2 0 w1 (by omega))
          clear hk
          go_wp2_with fail
          refine Hb.out.mono ?_
          rintro e w2 ⟨hb2, hor⟩
          have hown2 : w2.ownsRow w.heap.size 72 3 (.slice fa ts.length fc) ts.length xs := own_below hown hb2
          have hbel2 := hbel.trans (hb2.mono hbs)
          have hbs2 := hb2.size
          rcases hor with ⟨er, rfl, hE⟩ | ⟨ta, tn, tc, nb, B, e1, rfl, hF2, hq2, hT2, hS2⟩
          · have HE := hidS (terr_in s ts A q er HF.out HK.out hl hE)
            clear hE hown hown2 hbel hb2 Hb
            go_wp2
            go_ret2
            exact ⟨hbel2, .inl ⟨er, rfl, HE.out⟩⟩
          · have HF2 := hidS hF2
            have HT2 := hidS hT2
            have HS2 := hidS hS2
            have HB2 := hidS hb2
            have HL := hidS (fun k hk => (hown.lt k hk).2)
            clear hF2 hT2 hS2 hb2 hown hbel Hb
            go_wp2_with fail
            refine (Ha.out e1 _ (by omega) (by omega)).mono ?_
            rintro e w3 ⟨rfl, n3, hw3⟩
            have hown3 : w3.ownsRow w.heap.size 72 3 (.slice fa ts.length fc) ts.length xs := by rw [hw3]; exact hown2
            have HB3 : Hid (Below w1.heap.size w1 w3) := by rw [hw3]; exact below_drewN HB2.out n3
            have HS3 : Hid (Slc w3 (rng w1.heap.size w3.heap.size) 102 (.slice ta tn tc) nb) := by
              rw [hw3]; exact Slc.mono (w := w2) (w' := w2.drewN n3) (A := rng w1.heap.size w2.heap.size) (A' := rng w1.heap.size (w2.drewN n3).heap.size) HS2.out (fun _ _ => rfl) (fun _ h => ⟨h.1, h.2⟩)
            have hbel3 : Below w.heap.size w w3 := by rw [hw3]; exact below_drewN hbel2 n3
            have hz3 : w2.heap.size ≤ w3.heap.size := by rw [hw3]; exact Nat.le_refl _
            clear hw3 hown2 HB2 HS2 hbel2
            rcases HT2.out with h2 | h5 | h7
            · rw [ra_lit s e1 2 45 h2 rfl]
              have HX := hidS (TFlat.snoc HF.out hl HK.out HF2.out h2)
              obtain ⟨l1, l2, _, _⟩ := act_next s e1 (by omega)
              have HM := hidS HF2.out.le
              clear h2
              go_wp2_with (at_builtin; refine wpList_append_lies _ rfl _ _ 47 rfl w.heap.size 72 i0 (.agg #[.string ⟨#[]⟩, .int .i64 0, .slice none 0 0]) 3 48 Tryz.underlying47 hi hz0 hz1 hz2 rfl (by decide) _ _ _ rfl (hown3.alloc _) ⟨w3.heap.size, 0, none⟩ 1 1 [.string (act s q).name, .int .i64 q, .slice ta tn tc] rfl rfl ?c1 ?c2 (by decide) ?c3 ?c4 ?c5 _ rfl ?_)
              case c1 => exact tm_cells _ _ _ _ _ _
              case c2 => exact tm_one _ _ _ _ _
              case c3 => unfold maxLen; omega
              case c4 => omega
              case c5 => simp; omega
              intro g cap w4 hown4 hg4 hat4 hlt4
              have hbel4 : Below w.heap.size w w4 := (hbel3.alloc (by omega) _).grown hg4 (by simp; omega) (fun j hj => (hown3.lt j hj).1)
              have HR4 : Hid (RowT w4 (ownA w.heap.size w4 (.slice (some ⟨g, 0, none⟩) (ts.length + 1) cap)) (ts ++ [Tm.mk (act s q).name q nb]) (xs ++ [.string (act s q).name, .int .i64 q, .slice ta tn tc])) := by
                refine rowT_step HR.out (HB3.out.alloc (by omega) _) ?_ hg4 (by simpa using hat4) HL.out hbs
                refine ⟨ta, tn, tc, [], rfl, HS3.out.mono (fun k hk => heap_one _ _ k hk.2) (fun k hk => ?_), rfl⟩
                exact ⟨hk.1, by have := hk.2; simp; omega⟩
              have HO : Hid (w4.ownsRow w.heap.size 72 3 (.slice (some ⟨g, 0, none⟩) (ts.length + 1) cap) (ts ++ [Tm.mk (act s q).name q nb]).length (xs ++ [.string (act s q).name, .int .i64 q, .slice ta tn tc])) := by
                show World.ownsRow _ _ _ _ _ _ _
                rw [List.length_append]; exact hown4
              clear hown4 hg4 hat4 hown3 hbel3
              go_wp2
              go_roundw
              case rel => exact ⟨(act s e1).next, _, _, _, by omega, rfl, HX.out, by simp; omega, HO.out, HR4.out, hbel4⟩
              case measure => have := HM.out; simp [intOf]; omega
            · rw [ra_lit s e1 5 58 h5 rfl]
              have HE := hidS (terr_term s ts A B q e1 nb HF.out HK.out hl HF2.out (.inl h5))
              clear h5 hown3
              go_wp2
              go_ret2
              exact ⟨hbel3, .inl ⟨e1, rfl, HE.out⟩⟩
            · rw [ra_lit s e1 7 47 h7 rfl]
              have HE := hidS (terr_term s ts A B q e1 nb HF.out HK.out hl HF2.out (.inr h7))
              clear h7 hown3
              go_wp2
              go_ret2
              exact ⟨hbel3, .inl ⟨e1, rfl, HE.out⟩⟩
        · have hl1 : ((ts.length : Int) == 6) = true := by simp; omega
          have HE := hidS (terr_begin s ts A q HF.out hq (.inr hl) (.inl hgo))
          clear hk hown
          go_wp2
          go_ret2
          exact ⟨hbel, .inl ⟨q, rfl, HE.out⟩⟩
      · have HE := hidS (terr_begin s ts A q HF.out hq (.inl hk) (.inl hgo))
        have hsg : (sg (act s q).kind != 43) = true := sg_ne _ (act_range s q) hk
        show _
        rw [raOf]
        clear hown hk
        go_wp2
        go_ret2
        exact ⟨hbel, .inl ⟨q, rfl, HE.out⟩⟩
    · by_cases h0 : q = 0
      · have HE := hidS (terr_begin s ts A q HF.out hq (.inl (by rw [act_no s q (by omega)]; decide)) (.inr h0))
        have Ha := hidS (c83 s q)
        have HV := hidS (raOf_none s q (act_no s q (by omega)))
        have hg1 : ¬ ((q : Int) < (s.size : Int)) := by omega
        have hg2 : ((q : Int) == 0) = true := by simp; omega
        clear h0 hown
        go_wp2_with fail
        refine (Ha.out _ (by omega) (by omega)).mono ?_
        rintro e w1 ⟨rfl, n, hw1⟩
        have hbel1 : Below w.heap.size w w1 := by rw [hw1]; exact below_drewN hbel n
        clear hw1 hbel
        rw [HV.out]
        go_wp2
        go_ret2
        exact ⟨hbel1, .inl ⟨q, rfl, HE.out⟩⟩
      · have hg1 : ¬ ((q : Int) < (s.size : Int)) := by omega
        have hg2 : ((q : Int) == 0) = false := by simp; omega
        have HE := hidS (tfin s ts A q HF.out (by omega) (by omega))
        have HQ : Hid (q = s.size) := by show _ = _; omega
        have HS := hidS (slcT hown HR.out)
        clear hown HR
        go_wp2
        go_ret2
        have hq' := HQ.out
        subst hq'
        exact ⟨hbel, .inr ⟨fa, fc, ts, A, rfl, HF.out, HE.out, hl6, HS.out⟩⟩
end Go.Proofs.YtponicaflcbbeaaGreat
