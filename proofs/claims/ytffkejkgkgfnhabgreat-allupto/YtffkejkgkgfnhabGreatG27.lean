import Derived.Test.YtffkejkgkgfnhabGreatG25
import Derived.Test.YtffkejkgkgfnhabGreatG26
namespace Go.Proofs.YtffkejkgkgfnhabGreat
open Go.RowKit
set_option linter.unusedVariables false
/-- the cells of an action whose text ahead begins at p -/
def akC (s : ByteArray) (p : Nat) (a : Ak) : List Value := [.int .i64 a.kind, .string a.name, .int .i64 a.at', .int .i64 (act s a.at').next, .string (s.extract p a.at')]
def actsC (s : ByteArray) : Nat → List Ak → List Value
  | _, [] => []
  | p, a :: r => akC s p a ++ actsC s (act s a.at').next r
def lastN (s : ByteArray) : Nat → List Ak → Nat
  | p, [] => p
  | _, a :: r => lastN s (act s a.at').next r
theorem lastN_app (s : ByteArray) (p : Nat) (A B : List Ak) : lastN s p (A ++ B) = lastN s (lastN s p A) B := by
  induction A generalizing p with
  | nil => rfl
  | cons a r ih => exact ih _
theorem actsC_app (s : ByteArray) (p : Nat) (A B : List Ak) : actsC s p (A ++ B) = actsC s p A ++ actsC s (lastN s p A) B := by
  induction A generalizing p with
  | nil => rfl
  | cons a r ih => simp only [List.cons_append, actsC, lastN, ih, List.append_assoc]
def Disj (a b : Value) : Prop := ∀ g, a.ownBlock = some g → b.ownBlock ≠ some g
theorem st_far {w w' : World} {b B nt : Nat} {inb : Bool} {op : List Int} {oa : Option Addr} {oc : Nat} (h : StOK w b B nt inb op oa oc) (hb : w'.heap[b]? = w.heap[b]?) (hs : w.heap.size ≤ w'.heap.size)
    (ho : ∀ g, (Value.slice oa op.length oc).ownBlock = some g → w'.heap[g]? = w.heap[g]?) : StOK w' b B nt inb op oa oc := by
  have own' : w'.ownsRow B 3 1 (.slice oa op.length oc) op.length (op.map (Value.int .i64)) := by
    obtain ⟨h1, h2⟩ := h.own
    refine ⟨h1, ?_⟩
    rcases h2 with h2 | ⟨g, cap, cur, hv, hg, hh, r⟩
    · exact .inl h2
    · refine .inr ⟨g, cap, cur, hv, hg, ?_, r⟩
      rw [ho g (by rw [hv]; rfl)]; exact hh
  obtain ⟨c0, c1, c2, f0, f1, f2, _, hlt, hle, hlen, hn⟩ := h
  exact ⟨(World.cell?_of_block hb).trans c0, (World.cell?_of_block hb).trans c1, (World.cell?_of_block hb).trans c2, (World.frozen?_of_block hb).trans f0, (World.frozen?_of_block hb).trans f1, (World.frozen?_of_block hb).trans f2, own', hlt, by omega, hlen, hn⟩
theorem own_far {w w' : World} {B ty sz : Nat} {v : Value} {n : Nat} {xs : List Value} (h : w.ownsRow B ty sz v n xs) (ho : ∀ g, v.ownBlock = some g → w'.heap[g]? = w.heap[g]?) : w'.ownsRow B ty sz v n xs := by
  obtain ⟨h1, h2⟩ := h
  refine ⟨h1, ?_⟩
  rcases h2 with h2 | ⟨g, cap, cur, hv, hg, hh, r⟩
  · exact .inl h2
  · refine .inr ⟨g, cap, cur, hv, hg, ?_, r⟩
    rw [ho g (by rw [hv]; rfl)]; exact hh
theorem info113 : (Tryz.prog.info? 121).map (fun i => (i.zero, i.size, i.bytes)) = some (some (.agg #[.int .i64 0, .string ⟨#[]⟩, .int .i64 0, .int .i64 0, .string ⟨#[]⟩]), 5, 56) := by kernel_rfl
def PreadPost (s : ByteArray) (w : World) (e : Ending) (w' : World) : Prop :=
  (∃ wr : Nat, e = .returned (.tuple #[.slice none 0 0, .int .i64 wr, .bool false]) ∧ Ends s init (.err wr)) ∨
  (∃ (aa : Option Addr) (ac : Nat) (A : List Ak), e = .returned (.tuple #[.slice aa A.length ac, .int .i64 0, .bool true]) ∧ Ends s init (.fin A) ∧ w'.ownsRow (w.heap.size + 1) 121 5 (.slice aa A.length ac) A.length (actsC s 0 A) ∧ A.length ≤ 1000)
theorem st0 (w : World) : StOK (w.alloc (.cells #[.int .i64 0, .bool false, .slice none 0 0] 119)) w.heap.size (w.heap.size + 1) 0 false [] none 0 := by
  refine ⟨?_, ?_, ?_, ?_, ?_, ?_, World.ownsRow_nil _ _ _ _, by omega, by simp, by simp, by omega⟩ <;> simp
theorem ak_cells (w : World) (k : Int) (nm : ByteArray) (a nx : Int) (hd : ByteArray) : ∀ (j : Nat) (u : Value), [Value.int .i64 k, .string nm, .int .i64 a, .int .i64 nx, .string hd][j]? = some u → (w.alloc (.cells #[.int .i64 k, .string nm, .int .i64 a, .int .i64 nx, .string hd] 121)).cell? ((⟨w.heap.size, 0, none⟩ : Addr).add j) = some u := by
  intro j u hj
  match j, hj with
  | 0, hj => simp at hj; subst hj; simp [Addr.add]
  | 1, hj => simp at hj; subst hj; simp [Addr.add]
  | 2, hj => simp at hj; subst hj; simp [Addr.add]
  | 3, hj => simp at hj; subst hj; simp [Addr.add]
  | 4, hj => simp at hj; subst hj; simp [Addr.add]
  | j + 5, hj => simp at hj
theorem ak_one (k : Int) (nm : ByteArray) (a nx : Int) (hd : ByteArray) : ∀ u ∈ [Value.int .i64 k, .string nm, .int .i64 a, .int .i64 nx, .string hd], u.oneCell' = true := by
  intro u hu; simp at hu; rcases hu with rfl | rfl | rfl | rfl | rfl <;> rfl
theorem pr_err (s : ByteArray) (q nt : Nat) (inb : Bool) (op : List Int) (A : List Ak) (h : Reach s init ⟨q, inb, nt, op, A⟩) (hq : q < s.size) (hb : inb = true → txB (gb s q) = false) (ht : takeS inb nt op (act s q).kind = none) : Ends s init (.err q) :=
  Ends.of h (ends_err (step_err s q nt op A inb hq hb ht))
theorem take_zero (inb : Bool) (nt : Nat) (op : List Int) : takeS inb nt op 0 = none := by cases inb <;> simp [takeS]
theorem pr_end (s : ByteArray) (q nt : Nat) (inb : Bool) (op : List Int) (A : List Ak) (h : Reach s init ⟨q, inb, nt, op, A⟩) (hq : ¬ q < s.size) (hb : inb = true ∨ nt = 0) : Ends s init (.err s.size) := by
  refine Ends.of h (ends_err ?_)
  have hb' : (inb = true ∨ nt = 0) := hb
  simp only [stepC, hq, if_false]
  rw [if_pos hb']
theorem pr_fin (s : ByteArray) (q nt : Nat) (op : List Int) (A : List Ak) (h : Reach s init ⟨q, false, nt, op, A⟩) (hq : ¬ q < s.size) (hb : nt ≠ 0) : Ends s init (.fin A) :=
  ⟨_, h, by simp [stepC, hq, hb], trivial⟩
set_option maxRecDepth 100000 in
set_option maxHeartbeats 8000000 in
theorem c56 (s : ByteArray) (w : World) (hs : s.size ≤ 1000) : Calls Tryz.prog 50 #[.string s] w fun e w' => Below w.heap.size w w' ∧ PreadPost s w e w' := by
  obtain ⟨i0, hi, hz0, hz1, hz2x⟩ := info_parts info113
  go_enter Tryz.func50, Tryz.ntmps50
  go_wp2
  go_loopw [5, 7, 8, 9, 10] (fun av pv tv _ _ wr => ∃ (q nt tf : Nat) (inb : Bool) (op : List Int) (A : List Ak) (oa : Option Addr) (oc : Nat) (aa : Option Addr) (ac : Nat), q ≤ s.size ∧ tf ≤ q ∧ pv = .int .i64 q ∧ tv = .int .i64 tf ∧ av = .slice aa A.length ac ∧ Hid (lastN s 0 A = tf) ∧
      Hid (Reach s init ⟨q, inb, nt, op, A⟩) ∧ A.length ≤ q ∧ StOK wr w.heap.size (w.heap.size + 1) nt inb op oa oc ∧ wr.ownsRow (w.heap.size + 1) 121 5 (.slice aa A.length ac) A.length (actsC s 0 A) ∧ Hid (Disj (.slice oa op.length oc) (.slice aa A.length ac)) ∧ Below w.heap.size w wr) (fun _ pv _ _ _ _ => s.size - (intOf pv).toNat)
  case atStart => exact ⟨0, 0, 0, false, [], [], none, 0, none, 0, Nat.zero_le _, Nat.le_refl _, rfl, rfl, rfl, rfl, Reach.refl _, by simp, st0 w, World.ownsRow_nil _ _ _ _, (fun g h => by cases h), (Below.refl _ _).alloc (Nat.le_refl _) _⟩
  case round =>
    obtain ⟨q, nt, tf, inb, op, A, oa, oc, aa, ac, hq, htf, rfl, rfl, rfl, HA, HR, hAq, hst, hown, HD, hbel⟩ := hrel
    have hbs := hbel.size
    have HST := hidS hst
    obtain ⟨c0, c1, c2, f0, f1, f2, _, _, hle, _, hn⟩ := hst
    by_cases hlt : q < s.size
    · have hg := gb_in s q hlt
      by_cases htx : inb = true ∧ txB (gb s q) = true
      · obtain ⟨rfl, htx⟩ := htx
        have HR2 := hidS (HR.out.trans (Reach.one (step_text s q nt op A hlt htx)))
        have ht1 : (((s[q]'hlt).toNat : Int) != 123) = true := by rw [← hg]; simp [txB] at htx; simp; omega
        have ht2 : (((s[q]'hlt).toNat : Int) != 125) = true := by rw [← hg]; simp [txB] at htx; simp; omega
        clear htx hg HR c0 c2 f0 f1 f2
        have HO := hidS hown
        clear hown
        go_wp2
        exact ⟨⟨q + 1, nt, tf, true, op, A, oa, oc, aa, ac, by omega, by omega, by go_num, rfl, rfl, HA.out, HR2.out, by omega, HST.out, HO.out, HD.out, hbel⟩, by simp [intOf]; omega⟩
      · have Htb : Hid (inb = true → txB (gb s q) = false) := fun h => by
          cases hx : txB (gb s q)
          · rfl
          · exact absurd ⟨h, hx⟩ htx
        have key : (inb = false) ∨ (inb = true ∧ (((s[q]'hlt).toNat : Int) != 123) = false) ∨ (inb = true ∧ (((s[q]'hlt).toNat : Int) != 123) = true ∧ (((s[q]'hlt).toNat : Int) != 125) = false) := by
          cases hib : inb
          · exact .inl rfl
          · right
            have hx := Htb.out hib
            rw [hg] at hx
            simp [txB] at hx
            by_cases h1 : ((s[q]'hlt).toNat : Int) = 123
            · left; simp [h1]
            · right; refine ⟨rfl, by simpa using h1, ?_⟩
              have := hx (by omega)
              simp; omega
        have hkr := act_range s q
        have Hc := hidS (c80 s q wr hs hlt)
        have HO := hidS hown
        clear htx hown hg c2 f0 f1 f2 c0
        rcases key with hib | ⟨hib, g1⟩ | ⟨hib, g1, g2⟩
        all_goals
          subst hib
          go_wp2_with fail
          refine Hc.out.mono ?_
          clear Hc c1
          rintro e w1 ⟨rfl, hb1⟩
          have hb1s := hb1.size
          have HST1 := hidS (st_far HST.out (hb1.block _ (by omega)) hb1.size (fun g hg => hb1.block g (by have := (HST.out.own.lt g hg).2; omega)))
          have hown1 := own_below HO.out hb1
          have HL1 := hidS (fun g hg => (HO.out.lt g hg).2)
          have HLo := hidS (fun g hg => (HST.out.own.lt g hg).2)
          have hbel1 := hbel.trans (hb1.mono hbs)
          clear HO HST hbel hb1
          by_cases hk0 : (act s q).kind = 0
          · rw [agV_no s q hk0]
            have HE := hidS (pr_err s q nt _ op A HR.out hlt (fun h => by first | exact Htb.out h | exact Htb.out trivial | cases h) (by rw [hk0]; exact take_zero _ _ _))
            have HSTa : Hid (StOK (w1.alloc (.cells #[.int .i64 0, .string ⟨#[]⟩, .int .i64 0, .int .i64 0, .string ⟨#[]⟩] 121)) w.heap.size (w.heap.size + 1) nt _ op oa oc) :=
              st_far HST1.out (Below.heap_alloc _ _ _ (by omega)) (by simp) (fun g hg => Below.heap_alloc _ _ _ (HST1.out.own.lt g hg).2)
            have Ht := hidS (c81 _ w.heap.size (w.heap.size + 1) nt _ op oa oc 0 (by omega) HSTa.out)
            clear hown1 hk0
            go_wp2_with fail
            refine Ht.out.mono ?_
            rintro e w2 ⟨hch, hor⟩
            have hbel2 : Below w.heap.size w w2 := by
              refine (hbel1.alloc (by omega) _).trans ⟨hch.os, hch.tape, hch.output, hch.size, fun k hk => hch.block k (by simp; omega) (by omega) ?_⟩
              intro e
              have := (HST1.out.own.lt k e.symm).1
              omega
            rcases hor with ⟨_, rfl⟩ | ⟨i, n, o, oa', oc', h1, _⟩
            · clear hch Ht
              go_wp2
              go_ret3
              exact ⟨hbel2, .inl ⟨q, rfl, HE.out⟩⟩
            · rw [take_zero] at h1; cases h1
          · have HAV : Hid (agV s q = #[.int .i64 (act s q).kind, .string (act s q).name, .int .i64 q, .int .i64 (act s q).next, .string ⟨#[]⟩]) := by show _ = _; rw [agV, if_neg hk0]
            rw [HAV.out]
            obtain ⟨m1, m2, _, _⟩ := act_next s q hk0
            have HSTa : Hid (StOK (w1.alloc (.cells #[.int .i64 (act s q).kind, .string (act s q).name, .int .i64 q, .int .i64 (act s q).next, .string ⟨#[]⟩] 121)) w.heap.size (w.heap.size + 1) nt _ op oa oc) :=
              st_far HST1.out (Below.heap_alloc _ _ _ (by omega)) (by simp) (fun g hg => Below.heap_alloc _ _ _ (HST1.out.own.lt g hg).2)
            have Ht := hidS (c81 _ w.heap.size (w.heap.size + 1) nt _ op oa oc (act s q).kind hkr HSTa.out)
            have HSA := hidS (step_act s q nt op A)
            have HPE := hidS (pr_err s q nt _ op A HR.out hlt (fun h => by first | exact Htb.out h | exact Htb.out trivial | cases h))
            clear HAV HSTa
            generalize (act s q).kind = kk at *
            generalize (act s q).name = nm at *
            generalize hnx : (act s q).next = nx at *
            have HNX := hidS hnx
            clear hnx
            go_wp2_with fail
            refine Ht.out.mono ?_
            clear Ht
            rintro e w2 ⟨hch, hor⟩
            have hz2 := hch.size
            simp only [World.size_alloc] at hz2
            have hnb : ∀ k, w.heap.size < k → k ≠ w.heap.size := fun k h => by omega
            have hact : w2.heap[w1.heap.size]? = (w1.alloc (.cells #[.int .i64 kk, .string nm, .int .i64 q, .int .i64 nx, .string ⟨#[]⟩] 121)).heap[w1.heap.size]? := by
              refine hch.block _ (by simp) (by omega) ?_
              intro e
              have := (HST1.out.own.lt _ e.symm).2
              omega
            have a0 : w2.cell? ⟨w1.heap.size, 0, none⟩ = some (.int .i64 kk) := (World.cell?_of_block hact).trans (by simp)
            have a1 : w2.cell? ⟨w1.heap.size, 1, none⟩ = some (.string nm) := (World.cell?_of_block hact).trans (by simp)
            have a2 : w2.cell? ⟨w1.heap.size, 2, none⟩ = some (.int .i64 q) := (World.cell?_of_block hact).trans (by simp)
            have a3 : w2.cell? ⟨w1.heap.size, 3, none⟩ = some (.int .i64 nx) := (World.cell?_of_block hact).trans (by simp)
            have hbel2 : Below w.heap.size w w2 := by
              refine (hbel1.alloc (by omega) _).trans ⟨hch.os, hch.tape, hch.output, hch.size, fun k hk => hch.block k (by simp; omega) (by omega) ?_⟩
              intro e
              have := (HST1.out.own.lt k e.symm).1
              omega
            have hown2 : w2.ownsRow (w.heap.size + 1) 121 5 (.slice aa A.length ac) A.length (actsC s 0 A) := by
              refine own_far hown1 (fun g hg => ?_)
              have h1 := hown1.lt g hg
              refine (hch.block g (by simp; omega) (by omega) (fun e => HD.out g e.symm hg)).trans (Below.heap_alloc _ _ _ h1.2)
            rcases hor with ⟨hno, rfl⟩ | ⟨i, n, o, oa', oc', hsome, rfl, hst2, hob⟩
            · have HE := hidS (HPE.out hno)
              clear hch hown1 hown2 hact
              go_wp2
              go_ret3
              exact ⟨hbel2, .inl ⟨q, rfl, HE.out⟩⟩
            · have HR2 := hidS (HR.out.trans (Reach.one (HSA.out i n o _ hk0 hsome)))
              have HST2 := hidS hst2
              have HOB := hidS hob
              have a4 : w2.cell? ⟨w1.heap.size, 4, none⟩ = some (.string ⟨#[]⟩) := (World.cell?_of_block hact).trans (by simp)
              have f4 : w2.frozen? ⟨w1.heap.size, 4, none⟩ = false := (World.frozen?_of_block hact).trans (by simp)
              have hsa : w1.heap.size < w2.heap.size := by omega
              have hownS : (w2.setCell ⟨w1.heap.size, 4, none⟩ (.string (s.extract tf q))).ownsRow (w.heap.size + 1) 121 5 (.slice aa A.length ac) A.length (actsC s 0 A) :=
                own_far hown2 (fun g hg => set_far w2 w1.heap.size 4 _ g (by have := HL1.out g hg; omega))
              have hbelS : Below w.heap.size w (w2.setCell ⟨w1.heap.size, 4, none⟩ (.string (s.extract tf q))) := hbel2.trans ⟨rfl, rfl, rfl, by simp, fun k hk => set_far w2 w1.heap.size 4 _ k (by omega)⟩
              clear hch hown1 hact hst2 hob hsome HPE HSA hk0
              go_wp2_with (at_builtin; refine wpList_append_lies _ rfl _ _ 64 rfl (w.heap.size + 1) 121 i0 (.agg #[.int .i64 0, .string ⟨#[]⟩, .int .i64 0, .int .i64 0, .string ⟨#[]⟩]) 5 56 Tryz.underlying64 hi hz0 hz1 hz2x rfl (by decide) _ _ _ rfl (hownS.alloc _) ⟨w2.heap.size, 0, none⟩ 1 1 [.int .i64 kk, .string nm, .int .i64 q, .int .i64 nx, .string (s.extract tf q)] rfl rfl ?c1 ?c2 (by decide) ?c3 ?c4 ?c5 _ rfl ?_)
              case c1 =>
                have hc1 := ak_cells (w2.setCell ⟨w1.heap.size, 4, none⟩ (.string (s.extract tf q))) kk nm q nx (s.extract tf q)
                rw [World.size_setCell] at hc1
                exact hc1
              case c2 => exact ak_one kk nm q nx _
              case c3 => unfold maxLen; omega
              case c4 => omega
              case c5 => simp; omega
              intro g cap w3 hown3 hg3 hat3 hlt3
              have hbel3 : Below w.heap.size w w3 := (hbelS.alloc (by simp; omega) _).grown hg3 (by simp; omega) (fun j hj => by have := (hown2.lt j hj).1; omega)
              have hsz3 := hg3.size
              simp only [World.size_alloc, World.size_setCell] at hsz3
              have hkeep : ∀ j, j < w2.heap.size → j ≠ w1.heap.size → some j ≠ (Value.slice aa A.length ac).ownBlock → w3.heap[j]? = w2.heap[j]? := fun j h1 h0 h2 => ((hg3.block j (by simp; omega) h2).trans (Below.heap_alloc _ _ _ (by simpa using h1))).trans (set_far w2 w1.heap.size 4 _ j h0)
              have b3 : w3.cell? ⟨w1.heap.size, 3, none⟩ = some (.int .i64 nx) := (World.cell?_of_block ((hg3.block w1.heap.size (by simp; omega) (fun e => by have := HL1.out w1.heap.size e.symm; omega)).trans (Below.heap_alloc _ _ _ (by simpa using hsa)))).trans (by have ha3 := a3; go_simp)
              have HD2 : Hid (∀ g', (Value.slice oa' o.length oc').ownBlock = some g' → (Value.slice aa A.length ac).ownBlock ≠ some g') := by
                intro g' h1 h2
                rcases HOB.out with h3 | ⟨g4, h4, h5⟩
                · rw [h3] at h1; exact HD.out g' h1 h2
                · rw [h5] at h1; cases h1
                  have := HL1.out _ h2
                  simp at h4; omega
              have HNO : Hid (∀ g', (Value.slice oa' o.length oc').ownBlock = some g' → g' ≠ w1.heap.size) := by
                intro g' h1
                rcases HOB.out with h3 | ⟨g4, h4, h5⟩
                · rw [h3] at h1; have := HLo.out g' h1; omega
                · rw [h5] at h1; cases h1
                  simp at h4; omega
              have HST3 : Hid (StOK w3 w.heap.size (w.heap.size + 1) n i o oa' oc') :=
                st_far HST2.out (hkeep _ (by omega) (by omega) (fun e => by have := (hown2.lt _ e.symm).1; omega)) (by omega) (fun g' hg' => hkeep g' (HST2.out.own.lt g' hg').2 (HNO.out g' hg') (fun e => HD2.out g' hg' e.symm))
              have HD3 : Hid (Disj (.slice oa' o.length oc') (.slice (some ⟨g, 0, none⟩) (A ++ [Ak.mk kk nm q]).length cap)) := by
                intro g' h1 h2
                simp [Value.ownBlock] at h2
                subst h2
                rcases hat3 with h3 | h3
                · exact HD2.out _ h1 h3
                · have := (HST2.out.own.lt _ h1).2; omega
              have HO3 : Hid (w3.ownsRow (w.heap.size + 1) 121 5 (.slice (some ⟨g, 0, none⟩) (A ++ [Ak.mk kk nm q]).length cap) (A ++ [Ak.mk kk nm q]).length (actsC s 0 (A ++ [Ak.mk kk nm q]))) := by
                show World.ownsRow _ _ _ _ _ _ _
                rw [List.length_append, actsC_app, HA.out]
                have e : actsC s tf [Ak.mk kk nm q] = [.int .i64 kk, .string nm, .int .i64 q, .int .i64 nx, .string (s.extract tf q)] := by simp [actsC, akC, HNX.out]
                rw [e]; exact hown3
              have HA3 : Hid (lastN s 0 (A ++ [Ak.mk kk nm q]) = nx) := by
                show _ = _
                rw [lastN_app]; exact HNX.out
              clear hown3 hg3 hat3 hown2 hkeep a0 a1 a2 a3 a4 f4 hbel2 hownS hbelS
              go_wp2
              exact ⟨⟨nx, n, nx, i, o, A ++ [Ak.mk kk nm q], oa', oc', some ⟨g, 0, none⟩, cap, by omega, Nat.le_refl _, rfl, rfl, by simp, HA3.out, HR2, by simp; omega, HST3.out, HO3.out, HD3, hbel3⟩, by simp [intOf]; omega⟩
    · have HO := hidS hown
      clear hown
      cases inb with
      | true =>
        have HE := hidS (pr_end s q nt true op A HR.out hlt (.inl rfl))
        go_wp2
        go_ret3
        exact ⟨hbel, .inl ⟨s.size, rfl, HE.out⟩⟩
      | false =>
        by_cases h0 : nt = 0
        · have HE := hidS (pr_end s q nt false op A HR.out hlt (.inr h0))
          have hn0 : ((nt : Int) == 0) = true := by simp [h0]
          clear h0
          go_wp2
          go_ret3
          exact ⟨hbel, .inl ⟨s.size, rfl, HE.out⟩⟩
        · have HE := hidS (pr_fin s q nt op A HR.out hlt h0)
          have hn0 : ((nt : Int) == 0) = false := by simp [h0]
          clear h0
          go_wp2
          go_ret3
          exact ⟨hbel, .inr ⟨aa, ac, A, rfl, HE.out, HO.out, by omega⟩⟩
end Go.Proofs.YtffkejkgkgfnhabGreat
