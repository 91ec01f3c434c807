import Derived.Test.YtffkejkgkgfnhaaGreatG19
import Derived.Deep.AppendLies
import Derived.Test.YtffkejkgkgfnhaaGreatG02
namespace Go.Proofs.YtffkejkgkgfnhaaGreat
open Go.RowKit
set_option linter.unusedVariables false
theorem infoUse : (Tryz.prog.info? 46).map (fun i => (i.zero, i.size, i.bytes)) = some (some (.agg #[.int .i64 0, .int .i64 0]), 2, 16) := by kernel_rfl
def RWPost (s nm : ByteArray) (w : World) (e : Ending) (w' : World) : Prop :=
  ∃ (a : Option Addr) (c : Nat) (x : Int) (L : List (Nat × Nat)), e = .returned (.tuple #[.slice a L.length c, .int .i64 x]) ∧ w'.ownsRow w.heap.size 46 2 (.slice a L.length c) L.length (useC L) ∧ L.length ≤ 9624 ∧
    ((∃ y, ChkS s x y ∧ x ≠ 0 ∧ L = []) ∨ (∃ ts A, TFlat s ts A s.size ∧ s.size ≤ 400 ∧ Ends s init (.fin A) ∧ twA [] A = -1 ∧ unA (seenB (names A)) A < 0 ∧ WSpec ts nm x L))
theorem rw_nil (s nm : ByteArray) (w w' : World) (x : Int) (h : (∃ y, ChkS s x y ∧ x ≠ 0) ∨ (∃ ts A, TFlat s ts A s.size ∧ s.size ≤ 400 ∧ Ends s init (.fin A) ∧ twA [] A = -1 ∧ unA (seenB (names A)) A < 0 ∧ WSpec ts nm x [])) : RWPost s nm w (.returned (.tuple #[.slice none 0 0, .int .i64 x])) w' := by
  refine ⟨none, 0, x, [], rfl, World.ownsRow_nil _ _ _ _, by simp, ?_⟩
  rcases h with ⟨y, h1, h2⟩ | h
  · exact .inl ⟨y, h1, h2, rfl⟩
  · exact .inr h
theorem use_cells (w : World) (a b : Int) : ∀ (j : Nat) (u : Value), [Value.int .i64 a, .int .i64 b][j]? = some u → (w.alloc (.cells #[.int .i64 a, .int .i64 b] 46)).cell? ((⟨w.heap.size, 0, none⟩ : Addr).add j) = some u := by
  intro j u hj
  match j, hj with
  | 0, hj => simp at hj; subst hj; simp [Addr.add]
  | 1, hj => simp at hj; subst hj; simp [Addr.add]
  | j + 2, hj => simp at hj
theorem use_one (a b : Int) : ∀ u ∈ [Value.int .i64 a, .int .i64 b], u.oneCell' = true := by
  intro u hu; simp at hu; rcases hu with rfl | rfl <;> rfl
theorem own_base {w : World} {B B' ty sz : Nat} {v : Value} {n : Nat} {xs : List Value} (h : w.ownsRow B ty sz v n xs) (hb : B' ≤ B) : w.ownsRow B' ty sz v n xs := by
  obtain ⟨h1, h2⟩ := h
  refine ⟨h1, ?_⟩
  rcases h2 with h2 | ⟨g, cap, cur, hv, hg, r⟩
  · exact .inl h2
  · exact .inr ⟨g, cap, cur, hv, by omega, r⟩
set_option maxRecDepth 100000 in
set_option maxHeartbeats 4000000 in
theorem w26 (s nm : ByteArray) (w : World) (hm : s.size ≤ maxLen) : Calls Tryz.prog 27 #[.string s, .string nm] w fun e w' => Below w.heap.size w w' ∧ RWPost s nm w e w' := by
  obtain ⟨i0, hi, hz0, hz1, hz2x⟩ := info_parts infoUse
  by_cases hs : s.size ≤ 400
  · have Hc := hidS (c31 s w hs)
    go_enter Tryz.func27, Tryz.ntmps27
    go_wp2_with fail
    refine Hc.out.mono ?_
    clear Hc
    rintro e w1 ⟨hb, hor⟩
    rcases hor with ⟨er, rfl, hE⟩ | ⟨a, c, ts, A, hT, hE, hl6, hsl, hO⟩
    · have HE : Hid (ChkS s 2 er) := .inr ⟨hs, .inl ⟨er, hE, rfl, rfl⟩⟩
      clear hE
      go_wp2
      go_ret2
      exact ⟨hb, rw_nil s nm w w1 2 (.inl ⟨er, HE.out, by decide⟩)⟩
    · obtain ⟨v, x, y, hev, hC⟩ := chk_of_read s ts A a c e hT hO
      have HE : Hid (ChkS s x y) := .inr ⟨hs, .inr ⟨A, hE, hC⟩⟩
      have e1 := hT.twice
      have e2 := hT.un ts
      have e3 : hasF ts = seenB (names A) := funext hT.has
      rw [e3] at e2
      rcases hO with ⟨k1, k2⟩ | ⟨k1, k2, k3⟩ | ⟨k1, k2, k3⟩
      · rw [k2] at hev
        cases hev
        subst k2
        generalize twF ts ts 0 = TT at *
        clear hE hT hC hsl e1 e2 e3
        go_wp2
        go_ret2
        exact ⟨hb, rw_nil s nm w w1 3 (.inl ⟨_, HE.out, by decide⟩)⟩
      · rw [k3] at hev
        cases hev
        subst k3
        generalize unF ts ts = TT at *
        clear hE hT hC hsl e1 e2 e3
        go_wp2
        go_ret2
        exact ⟨hb, rw_nil s nm w w1 4 (.inl ⟨_, HE.out, by decide⟩)⟩
      · subst k3
        have HWF : Hid (WfT ts) := hT.wf hs k2
        have HALL : Hid (∀ x L, WSpec ts nm x L → ∃ ts A, TFlat s ts A s.size ∧ s.size ≤ 400 ∧ Ends s init (.fin A) ∧ twA [] A = -1 ∧ unA (seenB (names A)) A < 0 ∧ WSpec ts nm x L) := fun x L h => ⟨ts, A, hT, hs, hE, by rw [← e1]; exact k1, by rw [← e2]; exact k2, h⟩
        have Hf := hidS (c60 w1 _ a c ts nm hl6 (tmAt hsl))
        have HSL := hidS hsl
        have hfr := fndF_range nm ts 0
        clear hev hC HE e1 e2 e3 hE hT k1 k2 hsl
        go_wp2_with fail
        refine Hf.out.mono ?_
        rintro e w2 ⟨rfl, hw⟩
        obtain rfl := hw.symm
        clear Hf
        by_cases hneg : fndF nm ts 0 < 0
        · have HS1 : Hid (WSpec ts nm 4 []) := .inl ⟨hneg, rfl, rfl⟩
          generalize fndF nm ts 0 = FF at *
          go_wp2
          go_ret2
          exact ⟨hb, rw_nil s nm w w1 4 (.inr (HALL.out _ _ HS1.out))⟩
        · have ht : fndF nm ts 0 = ((tno ts nm : Nat) : Int) := by unfold tno; omega
          have HP := hidS (show 0 ≤ fndF nm ts 0 by omega)
          have htl : tno ts nm < ts.length := by omega
          have Hwk := hidS (w49 ts w1 (rng w.heap.size w1.heap.size) a c (tno ts nm) (ts.length * 24) rfl HWF.out hl6 htl (fun k hk => hk.2) HSL.out)
          rw [ht]
          clear ht hfr hneg
          have hT0 : Hid (∀ L, UseList ts (tno ts nm) L → ¬ TBad ts (tno ts nm) → WSpec ts nm 0 L) := fun L h1 h2 => .inr ⟨HP.out, .inr ⟨h2, rfl, h1⟩⟩
          have hT1 : Hid (TBad ts (tno ts nm) → WSpec ts nm 6 []) := fun h => .inr ⟨HP.out, .inl ⟨h, rfl, rfl⟩⟩
          clear HP
          generalize tno ts nm = t0 at *
          go_wp2_with fail
          refine Hwk.out.mono ?_
          clear Hwk
          rintro e w2 ⟨p, st, rfl, hwk, hb2, hbad, huse⟩
          have hb3 : Below w.heap.size w w2 := hb.trans (hb2.mono hb.size)
          have c4 := hwk.c4
          have c3 := hwk.c3
          cases hw : st.wrong
          · rw [hw] at c4
            have HUL : Hid (UseList ts t0 (usesOf st.used 9624)) := by
              refine ⟨usesOf_srt _ _, fun q => ?_⟩
              rw [usesOf_mem]
              constructor
              · rintro ⟨h1, _, h3⟩
                exact ⟨h1, (huse hw q.1 q.2 h1).1 h3⟩
              · rintro ⟨h1, h3⟩
                refine ⟨h1, ?_, (huse hw q.1 q.2 h1).2 h3⟩
                obtain ⟨t, x, _, h4⟩ := h3
                have : q.1 ≤ 400 := by
                  by_cases htt : t < ts.length
                  · rw [bod_at t htt] at h4
                    exact (evt_use ts _ _ _ _ _ (HWF.out t htt).1 h4).1
                  · have hn : bod ts t = .nil := by simp [bod, List.getElem?_eq_none (by omega : ts.length ≤ t)]
                    rw [hn] at h4
                    cases h4.1
                omega
            have HF : Hid (WSpec ts nm 0 (usesOf st.used 9624)) := hT0.out _ HUL.out (fun h => by rw [hbad.2 h] at hw; cases hw)
            have HU := hidS hwk.used
            have hsz2 := hb3.size
            have hl0 := hwk.l0
            have hl3 := hwk.l3
            clear hwk hbad huse HUL hT0 hT1 hw HSL HWF
            go_wp2
            go_loopw [11, 12] (fun ov kv wr => ∃ (k : Nat) (oa : Option Addr) (oc : Nat), k ≤ 9624 ∧ kv = .int .i64 k ∧ ov = .slice oa (usesOf st.used k).length oc ∧ wr.ownsRow w2.heap.size 46 2 (.slice oa (usesOf st.used k).length oc) (usesOf st.used k).length (useC (usesOf st.used k)) ∧ Below w2.heap.size w2 wr) (fun _ kv _ => 9624 - (intOf kv).toNat)
            case atStart => exact ⟨0, none, 0, by omega, rfl, rfl, World.ownsRow_nil _ _ _ _, Below.refl _ _⟩
            case round =>
              obtain ⟨k, oa, oc, hk, rfl, rfl, hown, hbel⟩ := hrel
              have d3 : wr.cell? ⟨p.b, 3, none⟩ = some (.slice (some ⟨p.gu, 0, none⟩) 9624 p.uc) := (hbel.cell (p := ⟨p.b, 3, none⟩) hl0).trans c3
              by_cases hlt : k < 9624
              · have du : wr.cell? ⟨p.gu, k, none⟩ = some (.bool (st.used k)) := (hbel.cell (p := ⟨p.gu, k, none⟩) hl3).trans (HU.out k hlt).1
                have HS := hidS (usesOf_succ st.used k)
                have hul := usesOf_len st.used k
                have hbs := hbel.size
                cases hu : st.used k
                · rw [hu] at du
                  have HSe : Hid (usesOf st.used (k + 1) = usesOf st.used k) := by show _ = _; rw [HS.out, if_neg (by rw [hu]; decide)]
                  have HO := hidS hown
                  clear hown HS
                  go_wp2
                  exact ⟨⟨k + 1, oa, oc, by omega, by go_num, by rw [HSe.out], by rw [HSe.out]; exact HO.out, hbel⟩, by simp [intOf]; omega⟩
                · rw [hu] at du
                  have HSe : Hid (usesOf st.used (k + 1) = usesOf st.used k ++ [(k / 24, k % 24)]) := by show _ = _; rw [HS.out, if_pos hu]
                  have q1 : IntKind.i64.wrap ((k : Int) / 24) = ((k / 24 : Nat) : Int) := by
                    have : ((k / 24 : Nat) : Int) = (k : Int) / 24 := by omega
                    rw [this, IntKind.wrap_i64]; omega
                  have q2 : (k : Int).tmod 24 = ((k % 24 : Nat) : Int) := by rw [Int.tmod_eq_emod_of_nonneg (by omega)]; omega
                  clear HS hu
                  generalize k / 24 = k1 at *
                  generalize k % 24 = k2 at *
                  generalize hLL : usesOf st.used k = LL at *
                  go_wp2_with (at_builtin; refine wpList_append_lies _ rfl _ _ 42 rfl w2.heap.size 46 i0 (.agg #[.int .i64 0, .int .i64 0]) 2 16 Tryz.underlying42 hi hz0 hz1 hz2x rfl (by decide) _ _ _ rfl (hown.alloc _) ⟨wr.heap.size, 0, none⟩ 1 1 [.int .i64 k1, .int .i64 k2] rfl rfl ?c1 ?c2 (by decide) ?c3 ?c4 ?c5 _ rfl ?_)
                  case c1 => exact use_cells wr k1 k2
                  case c2 => exact use_one _ _
                  case c3 => unfold maxLen; omega
                  case c4 => omega
                  case c5 => simp; omega
                  intro g cap w3 hown3 hg3 hat3 hlt3
                  have hbel3 : Below w2.heap.size w2 w3 := (hbel.alloc (by omega) _).grown hg3 (by simp; omega) (fun j hj => by have := (hown.lt j hj).1; omega)
                  have HO3 : Hid (w3.ownsRow w2.heap.size 46 2 (.slice (some ⟨g, 0, none⟩) (LL ++ [(k1, k2)]).length cap) (LL ++ [(k1, k2)]).length (useC (LL ++ [(k1, k2)]))) := by
                    show World.ownsRow _ _ _ _ _ _ _
                    rw [List.length_append, useC, List.flatMap_append]
                    simpa [useC] using hown3
                  clear hown3 hg3 hat3 hown d3 du
                  go_wp2
                  exact ⟨⟨k + 1, some ⟨g, 0, none⟩, cap, by omega, by go_num, by rw [HSe.out]; simp, by rw [HSe.out]; exact HO3.out, hbel3⟩, by simp [intOf]; omega⟩
              · have e : k = 9624 := by omega
                subst e
                have HO := hidS hown
                have hul := usesOf_len st.used 9624
                have hb4 := hb3.trans (hbel.mono hsz2)
                clear hown
                generalize usesOf st.used 9624 = LL at *
                go_wp2
                go_ret2
                exact ⟨hb4, oa, oc, 0, LL, rfl, own_base HO.out hsz2, hul, .inr (HALL.out _ _ HF.out)⟩
          · rw [hw] at c4
            have HF : Hid (WSpec ts nm 6 []) := hT1.out (hbad.1 hw)
            clear hwk hbad huse
            go_wp2
            go_ret2
            exact ⟨hb3, rw_nil s nm w w2 6 (.inr (HALL.out _ _ HF.out))⟩
  · have HF : Hid (ChkS s 1 0) := .inl ⟨by omega, rfl, rfl⟩
    have Hc := hidS (c31long s w (by omega) hm)
    go_enter Tryz.func27, Tryz.ntmps27
    go_wp2_with fail
    refine Hc.out.mono ?_
    rintro e w1 ⟨rfl, rfl⟩
    go_wp2
    go_ret2
    exact ⟨Below.refl _ _, rw_nil s nm _ _ 1 (.inl ⟨0, HF.out, by decide⟩)⟩
end Go.Proofs.YtffkejkgkgfnhaaGreat
namespace Go.Proofs.YtffkejkgkgfnhaaGreat
open Go.RowKit
set_option linter.unusedVariables false
/-! ### The lists that came out -/
structure Hd where
  a : Option Addr
  (n c : Nat)
  mrk : Nat
def holdsC (hs : List Hd) : List Value := hs.flatMap fun h => [.slice h.a h.n h.c, .int .i64 h.mrk]
/-- all of it reads as its owner wrote it -/
def HdAt (w : World) (h : Hd) : Prop := h.n = 0 ∨ ∃ g, h.a = some ⟨g, 0, none⟩ ∧ ∀ k, k < h.n → w.cell? ⟨g, k * 2, none⟩ = some (.int .i64 h.mrk) ∧ w.cell? ⟨g, k * 2 + 1, none⟩ = some (.int .i64 (-(h.mrk : Int)))
structure WdOK (w : World) (wb : Nat) (ha : Option Addr) (hc : Nat) (hs : List Hd) : Prop where
  c : w.cell? ⟨wb, 0, none⟩ = some (.slice ha hs.length hc)
  f : w.frozen? ⟨wb, 0, none⟩ = false
  own : w.ownsRow (wb + 1) 44 2 (.slice ha hs.length hc) hs.length (holdsC hs)
  lt : wb < w.heap.size
  all : ∀ h ∈ hs, HdAt w h
  far : ∀ h ∈ hs, ∀ g, (Value.slice h.a h.n h.c).ownBlock = some g → g ≠ wb ∧ some g ≠ (Value.slice ha hs.length hc).ownBlock ∧ g < w.heap.size
  mks : ∀ h ∈ hs, h.mrk < 2 ^ 50 ∧ h.n < 20000
theorem holdsC_at (hs : List Hd) : ∀ (i : Nat) (hi : i < hs.length), (holdsC hs)[i * 2]? = some (.slice hs[i].a hs[i].n hs[i].c) ∧ (holdsC hs)[i * 2 + 1]? = some (.int .i64 hs[i].mrk) := by
  induction hs with
  | nil => intro i hi; simp at hi
  | cons h r ih =>
    intro i hi
    cases i with
    | zero => exact ⟨rfl, rfl⟩
    | succ i =>
      have := ih i (by simpa using hi)
      have e : holdsC (h :: r) = [.slice h.a h.n h.c, .int .i64 h.mrk] ++ holdsC r := rfl
      rw [e, List.getElem?_append_right (by simp; omega), List.getElem?_append_right (by simp; omega)]
      simpa [show (i + 1) * 2 - 2 = i * 2 by omega, show (i + 1) * 2 + 1 - 2 = i * 2 + 1 by omega] using this
theorem WdOK.hold {w : World} {wb : Nat} {ha : Option Addr} {hc : Nat} {hs : List Hd} (h : WdOK w wb ha hc hs) (i : Nat) (hi : i < hs.length) : ∃ g, ha = some ⟨g, 0, none⟩ ∧ w.cell? ⟨g, i * 2, none⟩ = some (.slice hs[i].a hs[i].n hs[i].c) ∧ w.cell? ⟨g, i * 2 + 1, none⟩ = some (.int .i64 hs[i].mrk) := by
  rcases h.own.2 with ⟨_, h0⟩ | ⟨g, cap, cur, hv, _, hg, _, _, _, ht⟩
  · omega
  · simp at hv
    obtain ⟨h1, h2⟩ := holdsC_at hs i hi
    have tk : ∀ j, j < hs.length * 2 → (holdsC hs)[j]? = cur[j]? := by
      intro j hj; rw [← ht, List.getElem?_take_of_lt hj]; simp
    rw [tk _ (by omega)] at h1 h2
    exact ⟨g, hv.1, by rw [cell_of_heap hg]; exact h1, by rw [cell_of_heap hg]; exact h2⟩
set_option maxRecDepth 100000 in
set_option maxHeartbeats 2000000 in
theorem c9L (w : World) (wb : Nat) (ha : Option Addr) (hc : Nat) (hs : List Hd) (hl : hs.length ≤ 5000000) (h : WdOK w wb ha hc hs) : Calls Tryz.prog 10 #[.pointer (some ⟨wb, 0, none⟩)] w fun e w' => e = .returned (.bool true) ∧ Below w.heap.size w w' := by
  have H := hidS h
  have c := h.c
  have hw := h.lt
  clear h
  go_enter Tryz.func10, Tryz.ntmps10
  go_wp2
  go_loopw [3, 4, 5] (fun iv _ _ wr => ∃ k : Nat, k ≤ hs.length ∧ iv = .int .i64 k ∧ Hid (Below w.heap.size w wr)) (fun iv _ _ _ => hs.length - (intOf iv).toNat)
  case atStart => exact ⟨0, Nat.zero_le _, rfl, Below.refl _ _⟩
  case round =>
    obtain ⟨k, hk, rfl, HB⟩ := hrel
    have c' : wr.cell? ⟨wb, 0, none⟩ = some (.slice ha hs.length hc) := (HB.out.cell (p := ⟨wb, 0, none⟩) hw).trans c
    by_cases hlt : k < hs.length
    · obtain ⟨g, hg, h1, h2⟩ := H.out.hold k hlt
      have hgl : g < w.heap.size := (H.out.own.lt g (by rw [hg]; rfl)).2
      have h1' : wr.cell? ⟨g, k * 2, none⟩ = some (.slice hs[k].a hs[k].n hs[k].c) := (HB.out.cell (p := ⟨g, k * 2, none⟩) hgl).trans h1
      have h2' : wr.cell? ⟨g, k * 2 + 1, none⟩ = some (.int .i64 hs[k].mrk) := (HB.out.cell (p := ⟨g, k * 2 + 1, none⟩) hgl).trans h2
      rw [hg] at c'
      have hm := List.getElem_mem hlt
      have HA := hidS (H.out.all _ hm)
      have HF := hidS (H.out.far _ hm)
      obtain ⟨hmk, hnn⟩ := H.out.mks _ hm
      clear h1 h2 c
      generalize hs[k] = hd at *
      have hneg : IntKind.i64.wrap (-(hd.mrk : Int)) = -(hd.mrk : Int) := by rw [IntKind.wrap_i64]; omega
      have hsz := HB.out.size
      generalize wr = w1 at *
      go_wp2
      go_loopw [5] (fun kv wr => ∃ j : Nat, j ≤ hd.n ∧ kv = .int .i64 j ∧ Hid (Below (w1.heap.size + 1) (w1.alloc (.cells #[.slice hd.a hd.n hd.c, .int .i64 hd.mrk] 44)) wr)) (fun kv _ => hd.n - (intOf kv).toNat)
      case atStart => exact ⟨0, Nat.zero_le _, rfl, Below.refl _ _⟩
      case round =>
        obtain ⟨j, hj, rfl, HB2⟩ := hrel
        have q0 : wr.cell? ⟨w1.heap.size, 0, none⟩ = some (.slice hd.a hd.n hd.c) := (HB2.out.cell (p := ⟨w1.heap.size, 0, none⟩) (by show w1.heap.size < _; omega)).trans (by simp)
        have q1 : wr.cell? ⟨w1.heap.size, 1, none⟩ = some (.int .i64 hd.mrk) := (HB2.out.cell (p := ⟨w1.heap.size, 1, none⟩) (by show w1.heap.size < _; omega)).trans (by simp)
        have HB3 : Hid (Below w.heap.size w wr) := (HB.out.alloc hsz _).trans (HB2.out.mono (by omega))
        by_cases hjl : j < hd.n
        · obtain h0 | ⟨g2, hg2, hall⟩ := HA.out
          · omega
          · have hgl2 : g2 < w.heap.size := (HF.out g2 (by rw [hg2]; rfl)).2.2
            obtain ⟨r0, r1⟩ := hall j hjl
            have r0' : wr.cell? ⟨g2, j * 2, none⟩ = some (.int .i64 hd.mrk) := (HB3.out.cell (p := ⟨g2, j * 2, none⟩) hgl2).trans r0
            have r1' : wr.cell? ⟨g2, j * 2 + 1, none⟩ = some (.int .i64 (-(hd.mrk : Int))) := (HB3.out.cell (p := ⟨g2, j * 2 + 1, none⟩) hgl2).trans r1
            rw [hg2] at q0
            clear r0 r1 hall
            have i1 : (0 : Int) ≤ (j : Int) := by omega
            have i2 : (j : Int) < (hd.n : Int) := by omega
            go_wp2
            go_quiet (fail)
            go_wp2
            exact ⟨⟨j + 1, by omega, by go_num, below_drewN HB2.out _⟩, by simp [intOf]; omega⟩
        · go_wp2
          exact ⟨⟨k + 1, by omega, by go_num, HB3.out⟩, by simp [intOf]; omega⟩
    · go_wp2
      go_ret
      exact ⟨rfl, HB.out⟩
end Go.Proofs.YtffkejkgkgfnhaaGreat
namespace Go.Proofs.YtffkejkgkgfnhaaGreat
open Go.RowKit
set_option linter.unusedVariables false
/-- append onto a row of one's own: what lay there is read as it was -/
theorem append_keep {P : Program} (w : World) (t ty : TypeId) (base : Nat) (e : TypeId) (i : TypeInfo) (z : Value) (size bytes : Nat) (ht : P.underlying t = some (.slice e)) (hi : P.info? e = some i) (hz : i.zero = some z)
    (hsize : i.size = size) (hby : i.bytes = bytes) (hzs : z.cells.size = size) (hsz : 0 < size) (v : Value) (n : Nat) (xs : List Value) (hown : w.ownsRow base e size v n xs)
    (ad : Addr) (m c : Nat) (news : List Value) (hl : news.length = m * size) (hnews : ∀ j u, news[j]? = some u → w.cell? (ad.add j) = some u) (h1 : ∀ u ∈ news, u.oneCell' = true)
    (hm : 0 < m) (h63 : n + m ≤ maxLen) (hbytes : (n + m) * bytes ≤ 140737488355328) (hbase : base ≤ w.heap.size) (H : Nat) (hH : w.heap.size = H) :
    ∃ g cap w', (Builtin.append_ #[t, t] ty #[v, .slice (some ad) m c]).run P w = .ok (.slice (some ⟨g, 0, none⟩) (n + m) cap) w' ∧
      w'.ownsRow base e size (.slice (some ⟨g, 0, none⟩) (n + m) cap) (n + m) (xs ++ news) ∧ w.grownBy w' v.ownBlock ∧ (v.ownBlock = some g ∨ g = H) ∧ g < w'.heap.size ∧
      (∀ g0 j u, v.ownBlock = some g0 → xs[j]? = some u → w'.cell? ⟨g0, j, none⟩ = some u) := by
  obtain ⟨g, cap, w', hr, h2, h3, h4, h5⟩ := run_append_lies (P := P) w t ty base e i z size bytes ht hi hz hsize hby hzs hsz v n xs hown ad m c news hl hnews h1 hm h63 hbytes hbase H hH
  refine ⟨g, cap, w', hr, h2, h3, h4, h5, ?_⟩
  intro g0 j u hv hu
  have hold : w.cell? ⟨g0, j, none⟩ = some u := by
    have := hown.cells hv j u hu
    have e : (⟨g0, 0, none⟩ : Addr).add j = ⟨g0, j, none⟩ := by unfold Addr.add; split <;> simp_all
    rwa [e] at this
  rcases h4 with h4 | h4
  · rw [hv] at h4
    have hgg : g = g0 := by simpa using h4.symm
    have hj : j < xs.length := (List.getElem?_eq_some_iff.1 hu).1
    have := h2.cells (g := g) rfl j u (by rw [List.getElem?_append_left hj]; exact hu)
    have e : (⟨g, 0, none⟩ : Addr).add j = ⟨g, j, none⟩ := by unfold Addr.add; split <;> simp_all
    rw [e, hgg] at this
    exact this
  · have hlt := hown.lt g0 hv
    rcases hown.2 with ⟨rfl, _⟩ | ⟨g', cap', cur, rfl, hbg, hg, hnc, hcm, hcs, htake⟩
    · simp [Value.ownBlock] at hv
    · simp [Value.ownBlock] at hv
      subst hv
      by_cases hroom : n + m ≤ cap'
      · have hfit : n * i.size + news.length ≤ cur.size := by rw [hl, hcs, hsize, ← Nat.add_mul]; exact Nat.mul_le_mul_right _ hroom
        have hr2 := run_append_room (P := P) w t ty e i ht hi g' n cap' cur hg ad m c news (by rw [hsize]; exact hl) hnews h1 hroom hfit
        rw [hr2] at hr
        cases hr
        omega
      · have hr2 := run_append_grow (P := P) w t ty e i z ht hi hz ⟨g', 0, none⟩ n cap' xs (by rw [hsize]; exact hown.1) (hown.cells (g := g') rfl) ad m c news (by rw [hsize]; exact hl) hnews (by omega) (by unfold maxLen at h63; omega) (growslice_fits (by omega) (by rw [hby]; exact hbytes))
        rw [hr2] at hr
        cases hr
        exact (World.cell?_of_block (w := w) (Below.heap_alloc w.drew _ _ hlt.2)).trans hold
theorem wpList_append_keep {P : Program} (w : World) {ops : Array Oper} {rest : List Oper} {o : Oper} {a : Act} {Q : Exit → Act → World → Prop} (hgd : o.guard = none) (s x : Operand) (t : TypeId)
    (ho : o.op = .call { callee := .builtin .append, args := #[s, x], argTypes := #[t, t] }) (base : Nat) (e : TypeId) (i : TypeInfo) (z : Value) (size bytes : Nat) (ht : P.underlying t = some (.slice e)) (hi : P.info? e = some i) (hz : i.zero = some z)
    (hsize : i.size = size) (hby : i.bytes = bytes) (hzs : z.cells.size = size) (hsz : 0 < size) (v : Value) (n : Nat) (xs : List Value) (hs : a.eval s = v) (hown : w.ownsRow base e size v n xs)
    (ad : Addr) (m c : Nat) (news : List Value) (hx : a.eval x = .slice (some ad) m c) (hl : news.length = m * size) (hnews : ∀ j u, news[j]? = some u → w.cell? (ad.add j) = some u) (h1 : ∀ u ∈ news, u.oneCell' = true)
    (hm : 0 < m) (h63 : n + m ≤ maxLen) (hbytes : (n + m) * bytes ≤ 140737488355328) (hbase : base ≤ w.heap.size) (H : Nat) (hH : w.heap.size = H)
    (h : ∀ g cap w', w'.ownsRow base e size (.slice (some ⟨g, 0, none⟩) (n + m) cap) (n + m) (xs ++ news) → w.grownBy w' v.ownBlock → (v.ownBlock = some g ∨ g = H) → g < w'.heap.size → (∀ g0 j u, v.ownBlock = some g0 → xs[j]? = some u → w'.cell? ⟨g0, j, none⟩ = some u) → wpList P ops Q rest (a.put o.dst (.slice (some ⟨g, 0, none⟩) (n + m) cap)) w') : wpList P ops Q (o :: rest) a w :=
  wpList_plain hgd fun _ hK => by
    obtain ⟨g, cap, w', hr, h2, h3, h4, h5, h6⟩ := append_keep (P := P) w t o.type base e i z size bytes ht hi hz hsize hby hzs hsz v n xs hown ad m c news hl hnews h1 hm h63 hbytes hbase H hH
    unfold Oper.wp execOp
    simp only [ho, resolve, invoke, builtin, Sem.run_bind, Sem.run_pure, Result.andThen_ok, List.map_toArray, List.map_cons, List.map_nil, hs, hx, hr]
    exact hK _ _ (h g cap w' h2 h3 h4 h5 h6)
theorem own_keep {w w' : World} {B ty sz : Nat} {v : Value} {n : Nat} {xs : List Value} (h : w.ownsRow B ty sz v n xs) (ho : ∀ g, v.ownBlock = some g → w'.heap[g]? = w.heap[g]?) : w'.ownsRow B ty sz v n xs := by
  obtain ⟨h1, h2⟩ := h
  refine ⟨h1, ?_⟩
  rcases h2 with h2 | ⟨g, cap, cur, hv, hg, hh, r⟩
  · exact .inl h2
  · refine .inr ⟨g, cap, cur, hv, hg, ?_, r⟩
    rw [ho g (by rw [hv]; rfl)]; exact hh
theorem HdAt.cells {w w' : World} {h : Hd} (hk : HdAt w h) (hc : ∀ g k, (Value.slice h.a h.n h.c).ownBlock = some g → k < h.n * 2 → w'.cell? ⟨g, k, none⟩ = w.cell? ⟨g, k, none⟩) : HdAt w' h := by
  rcases hk with h0 | ⟨g, ha, hall⟩
  · exact .inl h0
  · refine .inr ⟨g, ha, fun k hk => ?_⟩
    have hb : (Value.slice h.a h.n h.c).ownBlock = some g := by rw [ha]; rfl
    obtain ⟨h1, h2⟩ := hall k hk
    exact ⟨(hc g (k * 2) hb (by omega)).trans h1, (hc g (k * 2 + 1) hb (by omega)).trans h2⟩
theorem WdOK.keep {w w' : World} {wb : Nat} {ha : Option Addr} {hc : Nat} {hs : List Hd} (h : WdOK w wb ha hc hs) (hsz : w.heap.size ≤ w'.heap.size) (hb : w'.heap[wb]? = w.heap[wb]?) (ho : ∀ g, (Value.slice ha hs.length hc).ownBlock = some g → w'.heap[g]? = w.heap[g]?) (hall : ∀ h ∈ hs, HdAt w' h) : WdOK w' wb ha hc hs :=
  ⟨(World.cell?_of_block hb).trans h.c, (World.frozen?_of_block hb).trans h.f, own_keep h.own ho, by have := h.lt; omega, hall, fun x hx g hg => ⟨(h.far x hx g hg).1, (h.far x hx g hg).2.1, by have := (h.far x hx g hg).2.2; omega⟩, h.mks⟩
theorem WdOK.below {w w' : World} {wb : Nat} {ha : Option Addr} {hc : Nat} {hs : List Hd} (h : WdOK w wb ha hc hs) (hb : Below w.heap.size w w') : WdOK w' wb ha hc hs :=
  h.keep hb.size (hb.block _ h.lt) (fun g hg => hb.block g (h.own.lt g hg).2) (fun x hx => (h.all x hx).cells (fun g k hg _ => hb.cell (p := ⟨g, k, none⟩) (h.far x hx g hg).2.2))
/-- one more is kept -/
theorem wd_add {w w3 : World} {wb : Nat} {ha : Option Addr} {hc : Nat} {hs : List Hd} (hW : WdOK w wb ha hc hs) (hd : Hd) (hat : HdAt w hd) (hfar : ∀ g, (Value.slice hd.a hd.n hd.c).ownBlock = some g → g ≠ wb ∧ some g ≠ (Value.slice ha hs.length hc).ownBlock ∧ g < w.heap.size) (hmk : hd.mrk < 2 ^ 50 ∧ hd.n < 20000)
    (g cap : Nat) (o : Obj) (hown3 : w3.ownsRow (wb + 1) 44 2 (.slice (some ⟨g, 0, none⟩) (hs.length + 1) cap) (hs.length + 1) (holdsC hs ++ [.slice hd.a hd.n hd.c, .int .i64 hd.mrk])) (hg : (w.alloc o).grownBy w3 (Value.slice ha hs.length hc).ownBlock) (hat3 : (Value.slice ha hs.length hc).ownBlock = some g ∨ g = w.heap.size + 1) :
    WdOK (w3.setCell ⟨wb, 0, none⟩ (.slice (some ⟨g, 0, none⟩) (hs.length + 1) cap)) wb (some ⟨g, 0, none⟩) cap (hs ++ [hd]) := by
  have hsz := hg.size
  simp only [World.size_alloc] at hsz
  have hwl := hW.lt
  have hne : g ≠ wb := by
    have := (hown3.lt g rfl).1
    omega
  have blk : ∀ k, k < w.heap.size → k ≠ wb → some k ≠ (Value.slice ha hs.length hc).ownBlock → (w3.setCell ⟨wb, 0, none⟩ (.slice (some ⟨g, 0, none⟩) (hs.length + 1) cap)).heap[k]? = w.heap[k]? := fun k h1 h2 h3 =>
    (set_far w3 wb 0 _ k h2).trans ((hg.block k (by simp; omega) h3).trans (Below.heap_alloc _ _ _ h1))
  have hwb : w3.heap[wb]? = w.heap[wb]? := (hg.block wb (by simp; omega) (fun e => by have := (hW.own.lt wb e.symm).1; omega)).trans (Below.heap_alloc _ _ _ hwl)
  have c3 : w3.cell? ⟨wb, 0, none⟩ = some (.slice ha hs.length hc) := (World.cell?_of_block hwb).trans hW.c
  have f3 : w3.frozen? ⟨wb, 0, none⟩ = false := (World.frozen?_of_block hwb).trans hW.f
  have len : (hs ++ [hd]).length = hs.length + 1 := by simp
  have all : ∀ x ∈ hs ++ [hd], HdAt w x ∧ (∀ g', (Value.slice x.a x.n x.c).ownBlock = some g' → g' ≠ wb ∧ some g' ≠ (Value.slice ha hs.length hc).ownBlock ∧ g' < w.heap.size) ∧ x.mrk < 2 ^ 50 ∧ x.n < 20000 := by
    intro x hx
    rcases List.mem_append.1 hx with hx | hx
    · exact ⟨hW.all x hx, hW.far x hx, hW.mks x hx⟩
    · simp at hx; subst hx; exact ⟨hat, hfar, hmk⟩
  refine ⟨?_, by simpa using f3, ?_, by simp; omega, fun x hx => ?_, fun x hx g' hg' => ?_, fun x hx => (all x hx).2.2⟩
  · rw [len]; exact cellS _ c3
  · rw [len]
    have e : holdsC (hs ++ [hd]) = holdsC hs ++ [.slice hd.a hd.n hd.c, .int .i64 hd.mrk] := by simp [holdsC]
    rw [e]
    exact own_keep hown3 (fun k hk => set_far w3 wb 0 _ k (by simp [Value.ownBlock] at hk; omega))
  · exact (all x hx).1.cells (fun g' k hg' _ => World.cell?_of_block (blk g' ((all x hx).2.1 g' hg').2.2 ((all x hx).2.1 g' hg').1 ((all x hx).2.1 g' hg').2.1))
  · obtain ⟨h1, h2, h3⟩ := (all x hx).2.1 g' hg'
    refine ⟨h1, ?_, by simp; omega⟩
    intro e
    simp [Value.ownBlock] at e
    rcases hat3 with h4 | h4
    · rw [h4, e] at h2; exact h2 rfl
    · omega
end Go.Proofs.YtffkejkgkgfnhaaGreat
