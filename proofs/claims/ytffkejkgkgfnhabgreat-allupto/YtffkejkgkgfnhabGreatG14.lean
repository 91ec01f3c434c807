import Derived.Test.YtffkejkgkgfnhabGreatG12
import Derived.Test.YtffkejkgkgfnhabGreatG13
import Derived.Deep.AppendLies
import Derived.Test.YtffkejkgkgfnhabGreatG11
namespace Go.Proofs.YtffkejkgkgfnhabGreat
open Go.RowKit
set_option linter.unusedVariables false
theorem orE_lt {x y : Int} (h : orE x y < 0) : x < 0 ∧ y < 0 := by
  unfold orE at h; split at h <;> omega
theorem ext_le (s : ByteArray) (a b : Nat) : (s.extract a b).size ≤ s.size := by
  have e : (s.extract a b).data.toList.length = (s.extract a b).size := rfl
  have e2 : s.data.toList.length = s.size := rfl
  rw [← e, Lib.extract_data, List.length_take, List.length_drop]
  omega
theorem act_name_le (s : ByteArray) (p : Nat) : (act s p).name.size ≤ s.size := by
  unfold act; split
  · exact ext_le s _ _
  · show (noAc p).name.size ≤ _
    exact Nat.zero_le _
theorem wf_cons {ts : List Tm} {k : Int} {p : Nat} {nm : ByteArray} {th el r : Nds} {tw : Bool} (hk : k = 1 ∨ k = 2 ∨ k = 3 ∨ k = 4 ∨ k = 5) (hp : p ≤ 400) (hn : nm.size ≤ 400) (hu : unk ts (.cons k p nm th el tw r) < 0)
    (h1 : unk ts th < 0 → WfN ts th) (h2 : unk ts el < 0 → WfN ts el) (h3 : unk ts r < 0 → WfN ts r) : WfN ts (.cons k p nm th el tw r) := by
  by_cases hc : k = 5 ∧ fndF nm ts 0 < 0
  · simp only [unk] at hu; rw [if_pos hc] at hu; omega
  · rw [unk_cons _ _ _ _ _ _ _ _ hc] at hu
    obtain ⟨u1, u2⟩ := orE_lt hu
    obtain ⟨u2, u3⟩ := orE_lt u2
    refine ⟨hk, ⟨by omega, by omega⟩, hn, fun e => ?_, h1 u1, h2 u2, h3 u3⟩
    apply Decidable.byContradiction
    intro hf
    exact hc ⟨e, by omega⟩
theorem Flat.wf {s : ByteArray} {d p e : Nat} {b : Nds} {A : List Ak} (h : Flat s d b p A e) (ts : List Tm) (hs : s.size ≤ 400) : unk ts b < 0 → WfN ts b := by
  have nm := fun p => Nat.le_trans (act_name_le s p) hs
  induction h with
  | nil d p => intro _; trivial
  | @text d p e r A h k ih =>
    intro hu
    have hp := (skp_all s txB p p (Nat.le_refl _) h).1
    exact wf_cons (by omega) (by omega) (Nat.le_trans (ext_le s _ _) hs) hu (fun _ => trivial) (fun _ => trivial) ih
  | @hole d p e r A h k ih => intro hu; have := act_next s p (by omega); exact wf_cons (by omega) (by omega) (nm p) hu (fun _ => trivial) (fun _ => trivial) ih
  | @call d p e r A h k ih => intro hu; have := act_next s p (by omega); exact wf_cons (by omega) (by omega) (nm p) hu (fun _ => trivial) (fun _ => trivial) ih
  | @loop d p e e1 th r A1 A hd h k1 h1 k2 ih1 ih => intro hu; have := act_next s p (by omega); exact wf_cons (by omega) (by omega) (nm p) hu ih1 (fun _ => trivial) ih
  | @one d p e e1 th r A1 A hd h k1 h1 k2 ih1 ih => intro hu; have := act_next s p (by omega); exact wf_cons (by omega) (by omega) (nm p) hu ih1 (fun _ => trivial) ih
  | @two d p e e1 e2 th el r A1 A2 A hd h k1 h1 k2 h2 k3 ih1 ih2 ih => intro hu; have := act_next s p (by omega); exact wf_cons (by omega) (by omega) (nm p) hu ih1 ih2 ih
theorem unF_all (ts : List Tm) : ∀ us, unF ts us < 0 → ∀ t ∈ us, unk ts t.body < 0
  | [], _, t, ht => by cases ht
  | u :: r, h, t, ht => by
    rw [unF_cons] at h
    obtain ⟨h1, h2⟩ := orE_lt h
    rcases List.mem_cons.1 ht with rfl | ht
    · exact h1
    · exact unF_all ts r h2 t ht
theorem TFlat.flats {s : ByteArray} {ts : List Tm} {A : List Ak} {p : Nat} (h : TFlat s ts A p) : ∀ t ∈ ts, ∃ q B e, Flat s 0 t.body q B e ∧ e ≤ s.size := by
  induction h with
  | nil => intro t ht; cases ht
  | @snoc ts A B p e b h hl hk hb he ih =>
    intro t ht
    rcases List.mem_append.1 ht with ht | ht
    · exact ih t ht
    · simp at ht; subst ht
      have := act_next s e (by omega)
      exact ⟨_, _, _, hb, by omega⟩
theorem TFlat.wf {s : ByteArray} {ts : List Tm} {A : List Ak} {p : Nat} (h : TFlat s ts A p) (hs : s.size ≤ 400) (hu : unF ts ts < 0) : ∀ i (hi : i < ts.length), WfN ts ts[i].body ∧ ts[i].body.sz ≤ 1000 := by
  intro i hi
  have hm := List.getElem_mem hi
  obtain ⟨q, B, e, hf, he⟩ := h.flats _ hm
  exact ⟨hf.wf ts hs (unF_all ts ts hu _ hm), by have := hf.szle; omega⟩
def useC (L : List (Nat × Nat)) : List Value := L.flatMap fun p => [.int .i64 p.1, .int .i64 p.2]
def Srt : List (Nat × Nat) → Prop := List.Pairwise fun p q => p.1 * 24 + p.2 < q.1 * 24 + q.2
theorem srt_unique : ∀ (L M : List (Nat × Nat)), Srt L → Srt M → (∀ p ∈ L, p.2 < 24) → (∀ p ∈ M, p.2 < 24) → (∀ p, p ∈ L ↔ p ∈ M) → L = M
  | [], M, _, _, _, _, h => by
    cases M with
    | nil => rfl
    | cons q N => exact absurd ((h q).2 (by simp)) (by simp)
  | p :: L, [], _, _, _, _, h => absurd ((h p).1 (by simp)) (by simp)
  | p :: L, q :: M, hL, hM, h1, h2, h => by
    obtain ⟨a1, a2⟩ := List.pairwise_cons.1 hL
    obtain ⟨b1, b2⟩ := List.pairwise_cons.1 hM
    have e : p = q := by
      rcases List.mem_cons.1 ((h p).1 (by simp)) with e | e
      · exact e
      · rcases List.mem_cons.1 ((h q).2 (by simp)) with e' | e'
        · exact e'.symm
        · have := a1 q e'
          have := b1 p e
          omega
    subst e
    have hn : p ∉ L := fun hp => by have := a1 p hp; omega
    have hn' : p ∉ M := fun hp => by have := b1 p hp; omega
    rw [srt_unique L M a2 b2 (fun x hx => h1 x (by simp [hx])) (fun x hx => h2 x (by simp [hx])) (fun x => by
      have := h x
      simp only [List.mem_cons] at this
      constructor
      · intro hx
        rcases this.1 (.inr hx) with e | e
        · subst e; exact absurd hx hn
        · exact e
      · intro hx
        rcases this.2 (.inr hx) with e | e
        · subst e; exact absurd hx hn'
        · exact e)]
def UseList (ts : List Tm) (t0 : Nat) (L : List (Nat × Nat)) : Prop := Srt L ∧ ∀ p, p ∈ L ↔ p.2 < 24 ∧ Evs ts t0 (.use p.1 p.2)
theorem useList_unique {ts : List Tm} {t0 : Nat} {L M : List (Nat × Nat)} (h : UseList ts t0 L) (k : UseList ts t0 M) : L = M :=
  srt_unique L M h.1 k.1 (fun p hp => ((h.2 p).1 hp).1) (fun p hp => ((k.2 p).1 hp).1) (fun p => (h.2 p).trans (k.2 p).symm)
/-- what Walks answers for templates -/
def WSpec (ts : List Tm) (nm : ByteArray) (x : Int) (L : List (Nat × Nat)) : Prop :=
  (fndF nm ts 0 < 0 ∧ x = 4 ∧ L = []) ∨ (0 ≤ fndF nm ts 0 ∧ ((TBad ts (tno ts nm) ∧ x = 6 ∧ L = []) ∨ (¬ TBad ts (tno ts nm) ∧ x = 0 ∧ UseList ts (tno ts nm) L)))
theorem wspec_unique {ts : List Tm} {nm : ByteArray} {x y : Int} {L M : List (Nat × Nat)} (h : WSpec ts nm x L) (k : WSpec ts nm y M) : x = y ∧ L = M := by
  rcases h with ⟨h1, rfl, rfl⟩ | ⟨h1, ⟨h2, rfl, rfl⟩ | ⟨h2, rfl, h3⟩⟩ <;> rcases k with ⟨k1, rfl, rfl⟩ | ⟨k1, ⟨k2, rfl, rfl⟩ | ⟨k2, rfl, k3⟩⟩
  · exact ⟨rfl, rfl⟩
  · omega
  · omega
  · omega
  · exact ⟨rfl, rfl⟩
  · exact absurd h2 k2
  · omega
  · exact absurd k2 h2
  · exact ⟨rfl, useList_unique h3 k3⟩
theorem evt_use (ts : List Tm) (E : En) (a x : Nat) (b : Nds) : ∀ S, WfN ts b → evt ts E b S (.use a x) → a ≤ 400 ∧ x < 24 := by
  induction b with
  | nil => intro S _ h; cases h.1
  | cons k a' nm th el tw r iht ihe ih =>
    intro S hw h
    obtain ⟨hk, ha, hn, hc, w1, w2, w3⟩ := hw
    rcases h with ⟨h, _⟩ | h | h
    · cases h
    · unfold pevt at h
      split at h
      · cases h.1
      · split at h
        · obtain ⟨y, _, h⟩ := h
          split at h
          · rename_i ho
            cases h
            simp only [opS, decide_eq_true_eq] at ho
            omega
          · cases h
        · split at h
          · rcases h with h | ⟨_, h⟩
            · exact iht _ w1 h
            · exact ihe _ w2 h
          · split at h
            · exact iht _ w1 h
            · obtain ⟨y, _, h⟩ := h; cases h
    · exact ih _ w3 h
def usesOf (f : Nat → Bool) (n : Nat) : List (Nat × Nat) := ((List.range n).filter f).map fun k => (k / 24, k % 24)
theorem usesOf_succ (f : Nat → Bool) (n : Nat) : usesOf f (n + 1) = if f n = true then usesOf f n ++ [(n / 24, n % 24)] else usesOf f n := by
  unfold usesOf
  rw [List.range_succ, List.filter_append, List.map_append]
  by_cases h : f n = true
  · rw [if_pos h]; simp [h]
  · rw [if_neg h]; simp [h]
theorem usesOf_len (f : Nat → Bool) (n : Nat) : (usesOf f n).length ≤ n := by
  unfold usesOf
  rw [List.length_map]
  exact Nat.le_trans (List.length_filter_le _ _) (by simp)
theorem usesOf_mem (f : Nat → Bool) (n : Nat) (p : Nat × Nat) : p ∈ usesOf f n ↔ p.2 < 24 ∧ p.1 * 24 + p.2 < n ∧ f (p.1 * 24 + p.2) = true := by
  unfold usesOf
  simp only [List.mem_map, List.mem_filter, List.mem_range]
  constructor
  · rintro ⟨k, ⟨h1, h2⟩, rfl⟩
    have : k / 24 * 24 + k % 24 = k := by omega
    simp only [this]
    exact ⟨Nat.mod_lt _ (by decide), h1, h2⟩
  · rintro ⟨h1, h2, h3⟩
    exact ⟨p.1 * 24 + p.2, ⟨h2, h3⟩, by ext <;> simp <;> omega⟩
theorem usesOf_srt (f : Nat → Bool) (n : Nat) : Srt (usesOf f n) := by
  induction n with
  | zero => simp [usesOf, Srt]
  | succ n ih =>
    rw [usesOf_succ]
    split
    · unfold Srt at *
      rw [List.pairwise_append]
      refine ⟨ih, by simp, ?_⟩
      intro p hp q hq
      simp at hq; subst hq
      have := ((usesOf_mem f n p).1 hp).2.1
      omega
    · exact ih
end Go.Proofs.YtffkejkgkgfnhabGreat
namespace Go.Proofs.YtffkejkgkgfnhabGreat
open Go.RowKit
set_option linter.unusedVariables false
theorem infoUse : (Tryz.prog.info? 46).map (fun i => (i.zero, i.size, i.bytes)) = some (some (.agg #[.int .i64 0, .int .i64 0]), 2, 16) := by kernel_rfl
def RWPost (s nm : ByteArray) (w : World) (e : Ending) (w' : World) : Prop :=
  ∃ (a : Option Addr) (c : Nat) (x : Int) (L : List (Nat × Nat)), e = .returned (.tuple #[.slice a L.length c, .int .i64 x]) ∧ w'.ownsRow w.heap.size 46 2 (.slice a L.length c) L.length (useC L) ∧ L.length ≤ 9624 ∧
    ((∃ y, ChkS s x y ∧ x ≠ 0 ∧ L = []) ∨ (∃ ts A, TFlat s ts A s.size ∧ s.size ≤ 400 ∧ Ends s init (.fin A) ∧ twA [] A = -1 ∧ unA (seenB (names A)) A < 0 ∧ WSpec ts nm x L))
theorem rw_nil (s nm : ByteArray) (w w' : World) (x : Int) (h : (∃ y, ChkS s x y ∧ x ≠ 0) ∨ (∃ ts A, TFlat s ts A s.size ∧ s.size ≤ 400 ∧ Ends s init (.fin A) ∧ twA [] A = -1 ∧ unA (seenB (names A)) A < 0 ∧ WSpec ts nm x [])) : RWPost s nm w (.returned (.tuple #[.slice none 0 0, .int .i64 x])) w' := by
  refine ⟨none, 0, x, [], rfl, World.ownsRow_nil _ _ _ _, by simp, ?_⟩
  rcases h with ⟨y, h1, h2⟩ | h
  · exact .inl ⟨y, h1, h2, rfl⟩
  · exact .inr h
theorem use_cells (w : World) (a b : Int) : ∀ (j : Nat) (u : Value), [Value.int .i64 a, .int .i64 b][j]? = some u → (w.alloc (.cells #[.int .i64 a, .int .i64 b] 46)).cell? ((⟨w.heap.size, 0, none⟩ : Addr).add j) = some u := by
  intro j u hj
  match j, hj with
  | 0, hj => simp at hj; subst hj; simp [Addr.add]
  | 1, hj => simp at hj; subst hj; simp [Addr.add]
  | j + 2, hj => simp at hj
theorem use_one (a b : Int) : ∀ u ∈ [Value.int .i64 a, .int .i64 b], u.oneCell' = true := by
  intro u hu; simp at hu; rcases hu with rfl | rfl <;> rfl
theorem own_base {w : World} {B B' ty sz : Nat} {v : Value} {n : Nat} {xs : List Value} (h : w.ownsRow B ty sz v n xs) (hb : B' ≤ B) : w.ownsRow B' ty sz v n xs := by
  obtain ⟨h1, h2⟩ := h
  refine ⟨h1, ?_⟩
  rcases h2 with h2 | ⟨g, cap, cur, hv, hg, r⟩
  · exact .inl h2
  · exact .inr ⟨g, cap, cur, hv, by omega, r⟩
set_option maxRecDepth 100000 in
set_option maxHeartbeats 4000000 in
theorem w26 (s nm : ByteArray) (w : World) (hm : s.size ≤ maxLen) : Calls Tryz.prog 23 #[.string s, .string nm] w fun e w' => Below w.heap.size w w' ∧ RWPost s nm w e w' := by
  obtain ⟨i0, hi, hz0, hz1, hz2x⟩ := info_parts infoUse
  by_cases hs : s.size ≤ 400
  · have Hc := hidS (c31 s w hs)
    go_enter Tryz.func23, Tryz.ntmps23
    go_wp2_with fail
    refine Hc.out.mono ?_
    clear Hc
    rintro e w1 ⟨hb, hor⟩
    rcases hor with ⟨er, rfl, hE⟩ | ⟨a, c, ts, A, hT, hE, hl6, hsl, hO⟩
    · have HE : Hid (ChkS s 2 er) := .inr ⟨hs, .inl ⟨er, hE, rfl, rfl⟩⟩
      clear hE
      go_wp2
      go_ret2
      exact ⟨hb, rw_nil s nm w w1 2 (.inl ⟨er, HE.out, by decide⟩)⟩
    · obtain ⟨v, x, y, hev, hC⟩ := chk_of_read s ts A a c e hT hO
      have HE : Hid (ChkS s x y) := .inr ⟨hs, .inr ⟨A, hE, hC⟩⟩
      have e1 := hT.twice
      have e2 := hT.un ts
      have e3 : hasF ts = seenB (names A) := funext hT.has
      rw [e3] at e2
      rcases hO with ⟨k1, k2⟩ | ⟨k1, k2, k3⟩ | ⟨k1, k2, k3⟩
      · rw [k2] at hev
        cases hev
        subst k2
        generalize twF ts ts 0 = TT at *
        clear hE hT hC hsl e1 e2 e3
        go_wp2
        go_ret2
        exact ⟨hb, rw_nil s nm w w1 3 (.inl ⟨_, HE.out, by decide⟩)⟩
      · rw [k3] at hev
        cases hev
        subst k3
        generalize unF ts ts = TT at *
        clear hE hT hC hsl e1 e2 e3
        go_wp2
        go_ret2
        exact ⟨hb, rw_nil s nm w w1 4 (.inl ⟨_, HE.out, by decide⟩)⟩
      · subst k3
        have HWF : Hid (WfT ts) := hT.wf hs k2
        have HALL : Hid (∀ x L, WSpec ts nm x L → ∃ ts A, TFlat s ts A s.size ∧ s.size ≤ 400 ∧ Ends s init (.fin A) ∧ twA [] A = -1 ∧ unA (seenB (names A)) A < 0 ∧ WSpec ts nm x L) := fun x L h => ⟨ts, A, hT, hs, hE, by rw [← e1]; exact k1, by rw [← e2]; exact k2, h⟩
        have Hf := hidS (c60 w1 _ a c ts nm hl6 (tmAt hsl))
        have HSL := hidS hsl
        have hfr := fndF_range nm ts 0
        clear hev hC HE e1 e2 e3 hE hT k1 k2 hsl
        go_wp2_with fail
        refine Hf.out.mono ?_
        rintro e w2 ⟨rfl, hw⟩
        obtain rfl := hw.symm
        clear Hf
        by_cases hneg : fndF nm ts 0 < 0
        · have HS1 : Hid (WSpec ts nm 4 []) := .inl ⟨hneg, rfl, rfl⟩
          generalize fndF nm ts 0 = FF at *
          go_wp2
          go_ret2
          exact ⟨hb, rw_nil s nm w w1 4 (.inr (HALL.out _ _ HS1.out))⟩
        · have ht : fndF nm ts 0 = ((tno ts nm : Nat) : Int) := by unfold tno; omega
          have HP := hidS (show 0 ≤ fndF nm ts 0 by omega)
          have htl : tno ts nm < ts.length := by omega
          have Hwk := hidS (w49 ts w1 (rng w.heap.size w1.heap.size) a c (tno ts nm) (ts.length * 24) rfl HWF.out hl6 htl (fun k hk => hk.2) HSL.out)
          rw [ht]
          clear ht hfr hneg
          have hT0 : Hid (∀ L, UseList ts (tno ts nm) L → ¬ TBad ts (tno ts nm) → WSpec ts nm 0 L) := fun L h1 h2 => .inr ⟨HP.out, .inr ⟨h2, rfl, h1⟩⟩
          have hT1 : Hid (TBad ts (tno ts nm) → WSpec ts nm 6 []) := fun h => .inr ⟨HP.out, .inl ⟨h, rfl, rfl⟩⟩
          clear HP
          generalize tno ts nm = t0 at *
          go_wp2_with fail
          refine Hwk.out.mono ?_
          clear Hwk
          rintro e w2 ⟨p, st, rfl, hwk, hb2, hbad, huse⟩
          have hb3 : Below w.heap.size w w2 := hb.trans (hb2.mono hb.size)
          have c4 := hwk.c4
          have c3 := hwk.c3
          cases hw : st.wrong
          · rw [hw] at c4
            have HUL : Hid (UseList ts t0 (usesOf st.used 9624)) := by
              refine ⟨usesOf_srt _ _, fun q => ?_⟩
              rw [usesOf_mem]
              constructor
              · rintro ⟨h1, _, h3⟩
                exact ⟨h1, (huse hw q.1 q.2 h1).1 h3⟩
              · rintro ⟨h1, h3⟩
                refine ⟨h1, ?_, (huse hw q.1 q.2 h1).2 h3⟩
                obtain ⟨t, x, _, h4⟩ := h3
                have : q.1 ≤ 400 := by
                  by_cases htt : t < ts.length
                  · rw [bod_at t htt] at h4
                    exact (evt_use ts _ _ _ _ _ (HWF.out t htt).1 h4).1
                  · have hn : bod ts t = .nil := by simp [bod, List.getElem?_eq_none (by omega : ts.length ≤ t)]
                    rw [hn] at h4
                    cases h4.1
                omega
            have HF : Hid (WSpec ts nm 0 (usesOf st.used 9624)) := hT0.out _ HUL.out (fun h => by rw [hbad.2 h] at hw; cases hw)
            have HU := hidS hwk.used
            have hsz2 := hb3.size
            have hl0 := hwk.l0
            have hl3 := hwk.l3
            clear hwk hbad huse HUL hT0 hT1 hw HSL HWF
            go_wp2
            go_loopw [11, 12] (fun ov kv wr => ∃ (k : Nat) (oa : Option Addr) (oc : Nat), k ≤ 9624 ∧ kv = .int .i64 k ∧ ov = .slice oa (usesOf st.used k).length oc ∧ wr.ownsRow w2.heap.size 46 2 (.slice oa (usesOf st.used k).length oc) (usesOf st.used k).length (useC (usesOf st.used k)) ∧ Below w2.heap.size w2 wr) (fun _ kv _ => 9624 - (intOf kv).toNat)
            case atStart => exact ⟨0, none, 0, by omega, rfl, rfl, World.ownsRow_nil _ _ _ _, Below.refl _ _⟩
            case round =>
              obtain ⟨k, oa, oc, hk, rfl, rfl, hown, hbel⟩ := hrel
              have d3 : wr.cell? ⟨p.b, 3, none⟩ = some (.slice (some ⟨p.gu, 0, none⟩) 9624 p.uc) := (hbel.cell (p := ⟨p.b, 3, none⟩) hl0).trans c3
              by_cases hlt : k < 9624
              · have du : wr.cell? ⟨p.gu, k, none⟩ = some (.bool (st.used k)) := (hbel.cell (p := ⟨p.gu, k, none⟩) hl3).trans (HU.out k hlt).1
                have HS := hidS (usesOf_succ st.used k)
                have hul := usesOf_len st.used k
                have hbs := hbel.size
                cases hu : st.used k
                · rw [hu] at du
                  have HSe : Hid (usesOf st.used (k + 1) = usesOf st.used k) := by show _ = _; rw [HS.out, if_neg (by rw [hu]; decide)]
                  have HO := hidS hown
                  clear hown HS
                  go_wp2
                  exact ⟨⟨k + 1, oa, oc, by omega, by go_num, by rw [HSe.out], by rw [HSe.out]; exact HO.out, hbel⟩, by simp [intOf]; omega⟩
                · rw [hu] at du
                  have HSe : Hid (usesOf st.used (k + 1) = usesOf st.used k ++ [(k / 24, k % 24)]) := by show _ = _; rw [HS.out, if_pos hu]
                  have q1 : IntKind.i64.wrap ((k : Int) / 24) = ((k / 24 : Nat) : Int) := by
                    have : ((k / 24 : Nat) : Int) = (k : Int) / 24 := by omega
                    rw [this, IntKind.wrap_i64]; omega
                  have q2 : (k : Int).tmod 24 = ((k % 24 : Nat) : Int) := by rw [Int.tmod_eq_emod_of_nonneg (by omega)]; omega
                  clear HS hu
                  generalize k / 24 = k1 at *
                  generalize k % 24 = k2 at *
                  generalize hLL : usesOf st.used k = LL at *
                  go_wp2_with (at_builtin; refine wpList_append_lies _ rfl _ _ 42 rfl w2.heap.size 46 i0 (.agg #[.int .i64 0, .int .i64 0]) 2 16 Tryz.underlying42 hi hz0 hz1 hz2x rfl (by decide) _ _ _ rfl (hown.alloc _) ⟨wr.heap.size, 0, none⟩ 1 1 [.int .i64 k1, .int .i64 k2] rfl rfl ?c1 ?c2 (by decide) ?c3 ?c4 ?c5 _ rfl ?_)
                  case c1 => exact use_cells wr k1 k2
                  case c2 => exact use_one _ _
                  case c3 => unfold maxLen; omega
                  case c4 => omega
                  case c5 => simp; omega
                  intro g cap w3 hown3 hg3 hat3 hlt3
                  have hbel3 : Below w2.heap.size w2 w3 := (hbel.alloc (by omega) _).grown hg3 (by simp; omega) (fun j hj => by have := (hown.lt j hj).1; omega)
                  have HO3 : Hid (w3.ownsRow w2.heap.size 46 2 (.slice (some ⟨g, 0, none⟩) (LL ++ [(k1, k2)]).length cap) (LL ++ [(k1, k2)]).length (useC (LL ++ [(k1, k2)]))) := by
                    show World.ownsRow _ _ _ _ _ _ _
                    rw [List.length_append, useC, List.flatMap_append]
                    simpa [useC] using hown3
                  clear hown3 hg3 hat3 hown d3 du
                  go_wp2
                  exact ⟨⟨k + 1, some ⟨g, 0, none⟩, cap, by omega, by go_num, by rw [HSe.out]; simp, by rw [HSe.out]; exact HO3.out, hbel3⟩, by simp [intOf]; omega⟩
              · have e : k = 9624 := by omega
                subst e
                have HO := hidS hown
                have hul := usesOf_len st.used 9624
                have hb4 := hb3.trans (hbel.mono hsz2)
                clear hown
                generalize usesOf st.used 9624 = LL at *
                go_wp2
                go_ret2
                exact ⟨hb4, oa, oc, 0, LL, rfl, own_base HO.out hsz2, hul, .inr (HALL.out _ _ HF.out)⟩
          · rw [hw] at c4
            have HF : Hid (WSpec ts nm 6 []) := hT1.out (hbad.1 hw)
            clear hwk hbad huse
            go_wp2
            go_ret2
            exact ⟨hb3, rw_nil s nm w w2 6 (.inr (HALL.out _ _ HF.out))⟩
  · have HF : Hid (ChkS s 1 0) := .inl ⟨by omega, rfl, rfl⟩
    have Hc := hidS (c31long s w (by omega) hm)
    go_enter Tryz.func23, Tryz.ntmps23
    go_wp2_with fail
    refine Hc.out.mono ?_
    rintro e w1 ⟨rfl, rfl⟩
    go_wp2
    go_ret2
    exact ⟨Below.refl _ _, rw_nil s nm _ _ 1 (.inl ⟨0, HF.out, by decide⟩)⟩
end Go.Proofs.YtffkejkgkgfnhabGreat
namespace Go.Proofs.YtffkejkgkgfnhabGreat
open Go.RowKit
set_option linter.unusedVariables false
structure Hd where
  a : Option Addr
  (n c : Nat)
  mrk : Nat
def holdsC (hs : List Hd) : List Value := hs.flatMap fun h => [.slice h.a h.n h.c, .int .i64 h.mrk]
/-- all of it reads as its owner wrote it -/
def HdAt (w : World) (h : Hd) : Prop := h.n = 0 ∨ ∃ g, h.a = some ⟨g, 0, none⟩ ∧ ∀ k, k < h.n → w.cell? ⟨g, k * 2, none⟩ = some (.int .i64 h.mrk) ∧ w.cell? ⟨g, k * 2 + 1, none⟩ = some (.int .i64 (-(h.mrk : Int)))
structure WdOK (w : World) (wb : Nat) (ha : Option Addr) (hc : Nat) (hs : List Hd) : Prop where
  c : w.cell? ⟨wb, 0, none⟩ = some (.slice ha hs.length hc)
  f : w.frozen? ⟨wb, 0, none⟩ = false
  own : w.ownsRow (wb + 1) 44 2 (.slice ha hs.length hc) hs.length (holdsC hs)
  lt : wb < w.heap.size
  all : ∀ h ∈ hs, HdAt w h
  far : ∀ h ∈ hs, ∀ g, (Value.slice h.a h.n h.c).ownBlock = some g → g ≠ wb ∧ some g ≠ (Value.slice ha hs.length hc).ownBlock ∧ g < w.heap.size
  mks : ∀ h ∈ hs, h.mrk < 2 ^ 50 ∧ h.n < 20000
theorem holdsC_at (hs : List Hd) : ∀ (i : Nat) (hi : i < hs.length), (holdsC hs)[i * 2]? = some (.slice hs[i].a hs[i].n hs[i].c) ∧ (holdsC hs)[i * 2 + 1]? = some (.int .i64 hs[i].mrk) := by
  induction hs with
  | nil => intro i hi; simp at hi
  | cons h r ih =>
    intro i hi
    cases i with
    | zero => exact ⟨rfl, rfl⟩
    | succ i =>
      have := ih i (by simpa using hi)
      have e : holdsC (h :: r) = [.slice h.a h.n h.c, .int .i64 h.mrk] ++ holdsC r := rfl
      rw [e, List.getElem?_append_right (by simp; omega), List.getElem?_append_right (by simp; omega)]
      simpa [show (i + 1) * 2 - 2 = i * 2 by omega, show (i + 1) * 2 + 1 - 2 = i * 2 + 1 by omega] using this
theorem WdOK.hold {w : World} {wb : Nat} {ha : Option Addr} {hc : Nat} {hs : List Hd} (h : WdOK w wb ha hc hs) (i : Nat) (hi : i < hs.length) : ∃ g, ha = some ⟨g, 0, none⟩ ∧ w.cell? ⟨g, i * 2, none⟩ = some (.slice hs[i].a hs[i].n hs[i].c) ∧ w.cell? ⟨g, i * 2 + 1, none⟩ = some (.int .i64 hs[i].mrk) := by
  rcases h.own.2 with ⟨_, h0⟩ | ⟨g, cap, cur, hv, _, hg, _, _, _, ht⟩
  · omega
  · simp at hv
    obtain ⟨h1, h2⟩ := holdsC_at hs i hi
    have tk : ∀ j, j < hs.length * 2 → (holdsC hs)[j]? = cur[j]? := by
      intro j hj; rw [← ht, List.getElem?_take_of_lt hj]; simp
    rw [tk _ (by omega)] at h1 h2
    exact ⟨g, hv.1, by rw [cell_of_heap hg]; exact h1, by rw [cell_of_heap hg]; exact h2⟩
set_option maxRecDepth 100000 in
set_option maxHeartbeats 2000000 in
theorem c9L (w : World) (wb : Nat) (ha : Option Addr) (hc : Nat) (hs : List Hd) (hl : hs.length ≤ 5000000) (h : WdOK w wb ha hc hs) : Calls Tryz.prog 6 #[.pointer (some ⟨wb, 0, none⟩)] w fun e w' => e = .returned (.bool true) ∧ Below w.heap.size w w' := by
  have H := hidS h
  have c := h.c
  have hw := h.lt
  clear h
  go_enter Tryz.func6, Tryz.ntmps6
  go_wp2
  go_loopw [3, 4, 5] (fun iv _ _ wr => ∃ k : Nat, k ≤ hs.length ∧ iv = .int .i64 k ∧ Hid (Below w.heap.size w wr)) (fun iv _ _ _ => hs.length - (intOf iv).toNat)
  case atStart => exact ⟨0, Nat.zero_le _, rfl, Below.refl _ _⟩
  case round =>
    obtain ⟨k, hk, rfl, HB⟩ := hrel
    have c' : wr.cell? ⟨wb, 0, none⟩ = some (.slice ha hs.length hc) := (HB.out.cell (p := ⟨wb, 0, none⟩) hw).trans c
    by_cases hlt : k < hs.length
    · obtain ⟨g, hg, h1, h2⟩ := H.out.hold k hlt
      have hgl : g < w.heap.size := (H.out.own.lt g (by rw [hg]; rfl)).2
      have h1' : wr.cell? ⟨g, k * 2, none⟩ = some (.slice hs[k].a hs[k].n hs[k].c) := (HB.out.cell (p := ⟨g, k * 2, none⟩) hgl).trans h1
      have h2' : wr.cell? ⟨g, k * 2 + 1, none⟩ = some (.int .i64 hs[k].mrk) := (HB.out.cell (p := ⟨g, k * 2 + 1, none⟩) hgl).trans h2
      rw [hg] at c'
      have hm := List.getElem_mem hlt
      have HA := hidS (H.out.all _ hm)
      have HF := hidS (H.out.far _ hm)
      obtain ⟨hmk, hnn⟩ := H.out.mks _ hm
      clear h1 h2 c
      generalize hs[k] = hd at *
      have hneg : IntKind.i64.wrap (-(hd.mrk : Int)) = -(hd.mrk : Int) := by rw [IntKind.wrap_i64]; omega
      have hsz := HB.out.size
      generalize wr = w1 at *
      go_wp2
      go_loopw [5] (fun kv wr => ∃ j : Nat, j ≤ hd.n ∧ kv = .int .i64 j ∧ Hid (Below (w1.heap.size + 1) (w1.alloc (.cells #[.slice hd.a hd.n hd.c, .int .i64 hd.mrk] 44)) wr)) (fun kv _ => hd.n - (intOf kv).toNat)
      case atStart => exact ⟨0, Nat.zero_le _, rfl, Below.refl _ _⟩
      case round =>
        obtain ⟨j, hj, rfl, HB2⟩ := hrel
        have q0 : wr.cell? ⟨w1.heap.size, 0, none⟩ = some (.slice hd.a hd.n hd.c) := (HB2.out.cell (p := ⟨w1.heap.size, 0, none⟩) (by show w1.heap.size < _; omega)).trans (by simp)
        have q1 : wr.cell? ⟨w1.heap.size, 1, none⟩ = some (.int .i64 hd.mrk) := (HB2.out.cell (p := ⟨w1.heap.size, 1, none⟩) (by show w1.heap.size < _; omega)).trans (by simp)
        have HB3 : Hid (Below w.heap.size w wr) := (HB.out.alloc hsz _).trans (HB2.out.mono (by omega))
        by_cases hjl : j < hd.n
        · obtain h0 | ⟨g2, hg2, hall⟩ := HA.out
          · omega
          · have hgl2 : g2 < w.heap.size := (HF.out g2 (by rw [hg2]; rfl)).2.2
            obtain ⟨r0, r1⟩ := hall j hjl
            have r0' : wr.cell? ⟨g2, j * 2, none⟩ = some (.int .i64 hd.mrk) := (HB3.out.cell (p := ⟨g2, j * 2, none⟩) hgl2).trans r0
            have r1' : wr.cell? ⟨g2, j * 2 + 1, none⟩ = some (.int .i64 (-(hd.mrk : Int))) := (HB3.out.cell (p := ⟨g2, j * 2 + 1, none⟩) hgl2).trans r1
            rw [hg2] at q0
            clear r0 r1 hall
            have i1 : (0 : Int) ≤ (j : Int) := by omega
            have i2 : (j : Int) < (hd.n : Int) := by omega
            go_wp2
            go_quiet (fail)
            go_wp2
            exact ⟨⟨j + 1, by omega, by go_num, below_drewN HB2.out _⟩, by simp [intOf]; omega⟩
        · go_wp2
          exact ⟨⟨k + 1, by omega, by go_num, HB3.out⟩, by simp [intOf]; omega⟩
    · go_wp2
      go_ret
      exact ⟨rfl, HB.out⟩
end Go.Proofs.YtffkejkgkgfnhabGreat
