import Derived.Test.YtffkejkgkgfnhaaG19
import Derived.Deep.RegionLaw
import Derived.Test.YtffkejkgkgfnhaaG21
namespace Go.Proofs.Ytffkejkgkgfnhaa
open Go.RowKit
set_option linter.unusedVariables false
theorem opC_snoc (o : List (Int × Int)) (a b : Int) : opC (o ++ [(a, b)]) = opC o ++ [.int .i64 a, .int .i64 b] := by simp [opC]
theorem opC_len (o : List (Int × Int)) : (opC o).length = o.length * 2 := by
  induction o with
  | nil => rfl
  | cons a r ih => simp [opC] at ih ⊢; omega
theorem last2 (op : List (Int × Int)) (h : op ≠ []) : ∃ o a b, op = o ++ [(a, b)] := ⟨op.dropLast, (op.getLast h).1, (op.getLast h).2, (List.dropLast_concat_getLast h).symm⟩
theorem pk_form {w : World} {P B : Nat} {oa : Option Addr} {oc : Nat} {x a b : Int} {o : List (Int × Int)} (h : PkOK w P B oa oc ⟨x, o ++ [(a, b)]⟩) : ∃ g, oa = some ⟨g, 0, none⟩ ∧ B ≤ g ∧ g < w.heap.size ∧ o.length + 1 ≤ oc ∧ oc ≤ maxLen ∧ w.cell? ⟨g, o.length * 2, none⟩ = some (.int .i64 a) ∧ w.cell? ⟨g, o.length * 2 + 1, none⟩ = some (.int .i64 b) ∧ w.frozen? ⟨g, o.length * 2 + 1, none⟩ = false := by
  have hl := opC_len o
  rcases h.own.2 with ⟨_, h0⟩ | ⟨g, cap, cur, hv, hb, hg, hn, hm, hs, ht⟩
  · simp at h0
  · simp at hv
    obtain ⟨hv1, rfl⟩ := hv
    have own := h.own
    have e : (o ++ [(a, b)]).length = o.length + 1 := by simp
    simp only [e] at hn own
    subst hv1
    have k0 := own.cellAt (o.length * 2) (by omega)
    have k1 := own.cellAt (o.length * 2 + 1) (by omega)
    rw [opC_snoc, List.getElem?_append_right (by omega), hl] at k0 k1
    refine ⟨g, rfl, hb, (own.lt g rfl).2, hn, hm, by simpa using k0, ?_, own.frozenAt _⟩
    rw [k1]
    have : o.length * 2 + 1 - o.length * 2 = 1 := by omega
    rw [this]; rfl
theorem PkOK.drew {w : World} {P B : Nat} {oa : Option Addr} {oc : Nat} {ps : PS} (h : PkOK w P B oa oc ps) : PkOK w.drew P B oa oc ps := ⟨h.c0, h.c1, h.f0, h.f1, own_far h.own (fun _ _ => rfl), h.lt, h.le, h.len, h.ran⟩
theorem ChgB.drew {w w' : World} {b : Nat} {v : Value} (h : ChgB w w' b v) : ChgB w w'.drew b v := ⟨h.os, h.tape, h.output, h.size, h.block⟩
set_option maxHeartbeats 1000000 in
theorem p114 (w : World) (P B : Nat) (oa : Option Addr) (oc : Nat) (ps : PS) (hp : ∀ q ∈ ps.op, -1 ≤ q.1 ∧ q.1 ≤ 23) (h : PkOK w P B oa oc ps) :
    Calls Try.prog 94 #[.pointer (some ⟨P, 0, none⟩)] w fun e w' => e = .returned (.tuple #[]) ∧ POut w w' P B oa oc ps.op.length (turnF ps) := by
  by_cases ho : ps.op = []
  · have H := hidS h
    obtain ⟨c0, c1, f0, f1, _⟩ := h
    have hl : (ps.op.length : Int) = 0 := by simp [ho]
    have HT : Hid (turnF ps = ps) := by show _ = _; simp [turnF, ho]
    have hl' : ps.op.length ≤ 0 := by simp [ho]
    clear ho hl hp
    go_enter Try.func94, Try.ntmps94
    go_wp2
    (try simp only [Exit.inBlock, Exit.then])
    refine bodyPost_ret (results_none rfl _ _ _) rfl ?_
    refine ⟨rfl, ChgB.refl _ _ _, oa, oc, by rw [HT.out]; exact H.out, .inl (by rw [HT.out])⟩
  · obtain ⟨o, a, b, ho'⟩ := last2 ps.op ho
    obtain ⟨x, op⟩ := ps
    simp only at ho' ho
    subst ho'
    obtain ⟨g, rfl, hg1, hg2, hc1, hc2, k0, k1, kf⟩ := pk_form h
    have hpa := hp (a, b) (by simp)
    have H := hidS h
    obtain ⟨c0, c1, f0, f1, hown, hlt, hle, hlen, hran⟩ := h
    simp only [List.length_append, List.length_cons, List.length_nil, Nat.zero_add] at c1 hlen
    have hne : P ≠ g := by omega
    have HS : Hid (((w.setCell ⟨g, o.length * 2 + 1, none⟩ (.int .i64 x)).setCell ⟨P, 0, none⟩ (.int .i64 a)) = ((w.setCell ⟨g, o.length * 2 + 1, none⟩ (.int .i64 x)).setCell ⟨P, 0, none⟩ (.int .i64 a))) := rfl
    have HW : Hid (PkOK ((w.setCell ⟨g, o.length * 2 + 1, none⟩ (.int .i64 x)).setCell ⟨P, 0, none⟩ (.int .i64 a)) P B (some ⟨g, 0, none⟩) oc ⟨a, o ++ [(a, x)]⟩) := by
      have s1 := (hown.stored (o.length * 2 + 1) (.int .i64 x)).1
      have e : (opC (o ++ [(a, b)])).set (o.length * 2 + 1) (.int .i64 x) = opC (o ++ [(a, x)]) := by
        rw [opC_snoc, opC_snoc, List.set_append_right _ _ (by rw [opC_len]; omega), opC_len]
        have : o.length * 2 + 1 - o.length * 2 = 1 := by omega
        rw [this]; rfl
      have s1' : (w.setCell ⟨g, o.length * 2 + 1, none⟩ (.int .i64 x)).ownsRow B 117 2 (.slice (some ⟨g, 0, none⟩) (o ++ [(a, x)]).length oc) (o ++ [(a, x)]).length (opC (o ++ [(a, x)])) := by
        rw [← e]; simpa using s1
      have q1 : PkOK (w.setCell ⟨g, o.length * 2 + 1, none⟩ (.int .i64 x)) P B (some ⟨g, 0, none⟩) oc ⟨x, o ++ [(a, x)]⟩ :=
        ⟨(cellF _ _ _ _ _ _ hne).trans c0, ((cellF _ _ _ _ _ _ hne).trans c1).trans (by simp), by simpa using f0, by simpa using f1, s1', hlt, by simpa using hle, by simpa using hlen, hran⟩
      exact q1.setNow a hpa
    have HC : Hid (ChgB w ((w.setCell ⟨g, o.length * 2 + 1, none⟩ (.int .i64 x)).setCell ⟨P, 0, none⟩ (.int .i64 a)) P (.slice (some ⟨g, 0, none⟩) (o.length + 1) oc)) :=
      ⟨rfl, rfl, rfl, by simp, fun j h1 h2 h3 => (set_far _ P 0 _ j h2).trans (set_far _ g _ _ j (fun e => h3 (by rw [e]; rfl)))⟩
    have HT : Hid (turnF ⟨x, o ++ [(a, b)]⟩ = ⟨a, o ++ [(a, x)]⟩) := by show _ = _; simp [turnF, List.getLast?_append]
    have k0' : (w.setCell ⟨g, o.length * 2 + 1, none⟩ (.int .i64 x)).cell? ⟨g, o.length * 2, none⟩ = some (.int .i64 a) := (cellO w _ _ _ _ (by omega)).trans k0
    have c0' : (w.setCell ⟨g, o.length * 2 + 1, none⟩ (.int .i64 x)).cell? ⟨P, 0, none⟩ = some (.int .i64 x) := (cellF _ _ _ _ _ _ hne).trans c0
    have c1' : (w.setCell ⟨g, o.length * 2 + 1, none⟩ (.int .i64 x)).cell? ⟨P, 1, none⟩ = some (.slice (some ⟨g, 0, none⟩) (o.length + 1) oc) := (cellF _ _ _ _ _ _ hne).trans c1
    clear hown hp HS
    unfold maxLen at hc2
    have i1 : (0 : Int) ≤ (o.length : Int) := by omega
    go_enter Try.func94, Try.ntmps94
    go_wp2
    go_region
    go_wp2
    go_end0
    refine ⟨rfl, ?_, some ⟨g, 0, none⟩, oc, by rw [HT.out]; exact HW.out.drew, .inl (by rw [HT.out]; rfl)⟩
    have := HC.out.drew
    simpa using this
set_option maxHeartbeats 1000000 in
theorem p115 (w : World) (P B : Nat) (oa : Option Addr) (oc : Nat) (ps : PS) (hp : ∀ q ∈ ps.op, -1 ≤ q.2 ∧ q.2 ≤ 23) (h : PkOK w P B oa oc ps) :
    Calls Try.prog 95 #[.pointer (some ⟨P, 0, none⟩)] w fun e w' => e = .returned (.bool (leaveF ps).2) ∧ POut w w' P B oa oc ps.op.length (leaveF ps).1 := by
  by_cases ho : ps.op = []
  · have H := hidS h
    obtain ⟨c0, c1, f0, f1, _⟩ := h
    have hl : (ps.op.length : Int) = 0 := by simp [ho]
    have HT : Hid (leaveF ps = (ps, true)) := by show _ = _; simp [leaveF, ho]
    have hl' : ps.op.length ≤ 0 := by simp [ho]
    clear ho hl hp
    go_enter Try.func95, Try.ntmps95
    go_wp2
    go_ret
    refine ⟨retS_bool (by rw [HT.out]), ChgB.refl _ _ _, oa, oc, by rw [HT.out]; exact H.out, .inl (by rw [HT.out])⟩
  · obtain ⟨o, a, b, ho'⟩ := last2 ps.op ho
    obtain ⟨x, op⟩ := ps
    simp only at ho' ho
    subst ho'
    obtain ⟨g, rfl, hg1, hg2, hc1, hc2, k0, k1, kf⟩ := pk_form h
    have hpb := hp (a, b) (by simp)
    have H := hidS h
    obtain ⟨c0, c1, f0, f1, hown, hlt, hle, hlen, hran⟩ := h
    simp only [List.length_append, List.length_cons, List.length_nil, Nat.zero_add] at c1 hown
    have hlen' : o.length < 1000 := by simp at hlen; omega
    have hran' : -1 ≤ x ∧ x ≤ 23 := hran
    have HT : Hid (leaveF ⟨x, o ++ [(a, b)]⟩ = (⟨if x = -1 then b else x, o⟩, decide (b = -1 ∨ b = (if x = -1 then b else x)))) := by show _ = _; simp [leaveF, List.getLast?_append]
    generalize leaveF ⟨x, o ++ [(a, b)]⟩ = R at *
    have HW : Hid (PkOK (w.setCell ⟨P, 1, none⟩ (.slice (some ⟨g, 0, none⟩) o.length oc)) P B (some ⟨g, 0, none⟩) oc ⟨x, o⟩) := by
      have ho2 : w.ownsRow B 117 2 (.slice (some ⟨g, 0, none⟩) o.length oc) o.length (opC o) := by
        rw [opC_snoc] at hown
        exact ownsRow_pop (opC_len o) hown
      exact ⟨(cellO w _ _ _ _ (by decide)).trans c0, cellS _ c1, by simpa using f0, by simpa using f1, own_far ho2 (fun k hk => set_far w P 1 _ k (by have := (ho2.lt k hk).1; omega)), hlt, by simpa using hle, by show o.length ≤ 1000; omega, hran'⟩
    have HC : Hid (ChgB w (w.setCell ⟨P, 1, none⟩ (.slice (some ⟨g, 0, none⟩) o.length oc)) P (.slice (some ⟨g, 0, none⟩) (o.length + 1) oc)) := (ChgB.refl _ _ _).set 1 _
    have c0' : (w.setCell ⟨P, 1, none⟩ (.slice (some ⟨g, 0, none⟩) o.length oc)).cell? ⟨P, 0, none⟩ = some (.int .i64 x) := (cellO w _ _ _ _ (by decide)).trans c0
    have f0' : (w.setCell ⟨P, 1, none⟩ (.slice (some ⟨g, 0, none⟩) o.length oc)).frozen? ⟨P, 0, none⟩ = false := by simpa using f0
    clear hown hp
    unfold maxLen at hc2
    have i1 : (0 : Int) ≤ (o.length : Int) := by omega
    have i2 : (o.length : Int) ≤ (oc : Int) := by omega
    by_cases hx : x = -1
    · have e1 : (x == -1) = true := by simp [hx]
      have HW2 := hidS (HW.out.setNow b hpb)
      have HF : Hid (R = (⟨b, o⟩, true)) := by show _ = _; rw [HT.out]; simp [hx]
      clear hx HT
      go_enter Try.func95, Try.ntmps95
      go_wp2
      all_goals
        go_ret
        refine ⟨retS_bool (by rw [HF.out]), ?_, some ⟨g, 0, none⟩, oc, by rw [HF.out]; first | exact HW2.out | (have := HW2.out; simp_all), .inl (by rw [HF.out]; rfl)⟩
        exact HC.out.set 0 _
    · have e1 : (x == -1) = false := by simp [hx]
      have HF : Hid (R = (⟨x, o⟩, decide (b = -1 ∨ b = x))) := by show _ = _; rw [HT.out]; simp [hx]
      clear HT
      go_enter Try.func95, Try.ntmps95
      go_wp2
      all_goals
        go_ret
        refine ⟨retS_bool (by rw [HF.out]; grind), HC.out, some ⟨g, 0, none⟩, oc, by rw [HF.out]; exact HW.out, .inl (by rw [HF.out]; rfl)⟩
end Go.Proofs.Ytffkejkgkgfnhaa
namespace Go.Proofs.Ytffkejkgkgfnhaa
open Go.RowKit
set_option linter.unusedVariables false
theorem gsC_set (gs : List Gp) : ∀ (i : Nat) (g : Gp) (x : Int), gs[i]? = some g → (gsC gs).set (i * 3 + 2) (.int .i64 x) = gsC (gs.set i ⟨g.b, g.f, x⟩) := by
  induction gs with
  | nil => intro i g x h; simp at h
  | cons a r ih =>
    intro i g x h
    have e : ∀ u l, gsC (u :: l) = [.int .i64 u.b, .int .i64 u.f, .int .i64 u.en] ++ gsC l := fun _ _ => rfl
    cases i with
    | zero => simp at h; subst h; rw [List.set_cons_zero, e, e]; rfl
    | succ i =>
      rw [List.set_cons_succ, e, e, ← ih i g x (by simpa using h), List.set_append_right _ _ (by simp; omega)]
      congr 1
      congr 1
      simp; omega
theorem FkOK.setEnd {s : ByteArray} {A : List Ak} {w : World} {f : Fp} {g gc : Nat} {fs : FS} (h : FkOK s A w f (some ⟨g, 0, none⟩) gc fs) (i : Nat) (q : Gp) (hq : fs.gs[i]? = some q) (x : Int) : FkOK s A ((w.setCell ⟨g, i * 3 + 2, none⟩ (.int .i64 x)).setCell ⟨f.F, 3, none⟩ (.bool true)) f (some ⟨g, 0, none⟩) gc { fs with gs := fs.gs.set i ⟨q.b, q.f, x⟩, grew := true } := by
  have hg := h.own.lt g rfl
  obtain ⟨c0, c1, c2, c3, f1, f3, own, act, com, n1, n2, n3, l0, l1, l2, l3, la⟩ := h
  have m0 : f.F ≠ g := by omega
  have m1 : f.ag ≠ g := by omega
  have m2 : f.cg ≠ g := by omega
  have len : (fs.gs.set i ⟨q.b, q.f, x⟩).length = fs.gs.length := by simp
  have fb : ∀ j, 3 ≠ j → ((w.setCell ⟨g, i * 3 + 2, none⟩ (.int .i64 x)).setCell ⟨f.F, 3, none⟩ (.bool true)).cell? ⟨f.F, j, none⟩ = w.cell? ⟨f.F, j, none⟩ := fun j hj => (cellO _ _ _ _ _ hj).trans (cellF _ _ _ _ _ _ m0)
  have fa : ∀ k, k ≠ f.F → k ≠ g → ((w.setCell ⟨g, i * 3 + 2, none⟩ (.int .i64 x)).setCell ⟨f.F, 3, none⟩ (.bool true)).heap[k]? = w.heap[k]? := fun k h1 h2 => (set_far _ f.F 3 _ k h1).trans (set_far _ g _ _ k h2)
  have s1 := (own.stored (i * 3 + 2) (.int .i64 x)).1
  rw [gsC_set fs.gs i q x hq] at s1
  refine ⟨(fb 0 (by decide)).trans c0, ?_, (fb 2 (by decide)).trans c2, cellS (u := .bool fs.grew) _ ((cellF _ _ _ _ _ _ m0).trans c3), by simpa using f1, by simpa using f3, ?_, act.far (fa _ n1.symm m1), fun j hj c hc => ⟨(World.cell?_of_block (fa _ n2.symm m2)).trans (com j hj c hc).1, (World.frozen?_of_block (fa _ n2.symm m2)).trans (com j hj c hc).2⟩, n1, n2, n3, l0, l1, l2, by simpa using l3, la⟩
  · show _ = some (Value.slice _ (fs.gs.set i ⟨q.b, q.f, x⟩).length gc)
    rw [len]; exact (fb 1 (by decide)).trans c1
  · show World.ownsRow _ _ _ _ (.slice _ (fs.gs.set i ⟨q.b, q.f, x⟩).length gc) (fs.gs.set i ⟨q.b, q.f, x⟩).length _
    rw [len]
    exact own_far s1 (fun k hk => set_far _ f.F 3 _ k (by simp [Value.ownBlock] at hk; omega))
set_option maxHeartbeats 2000000 in
theorem p106 (s : ByteArray) (A : List Ak) (w : World) (f : Fp) (ga : Option Addr) (gc : Nat) (fs : FS) (i : Nat) (x : Int) (hi : i < fs.gs.length) (hx : -1 ≤ x ∧ x ≤ 23) (hl : fs.gs.length ≤ 30000) (h : FkOK s A w f ga gc fs) :
    Calls Try.prog 73 #[.pointer (some ⟨f.F, 0, none⟩), .int .i64 i, .int .i64 x] w fun e w' => e = .returned (.bool (endF fs i x).isSome) ∧ ChgF f (.slice ga fs.gs.length gc) w w' ∧ ∀ fs', endF fs i x = some fs' → FOut s A f ga gc fs.gs.length w w' fs' := by
  have H := hidS h
  obtain ⟨R, hR⟩ : ∃ R, R = endF fs i x := ⟨_, rfl⟩
  rw [← hR]
  by_cases hn : x = -1
  · have e1 : (x == -1) = true := by simp [hn]
    have HF : Hid (R = some fs) := by show _ = _; rw [hR]; unfold endF; rw [if_pos hn]
    clear h hR
    go_enter Try.func73, Try.ntmps73
    go_wp2
    go_ret
    refine ⟨retS_bool (by rw [HF.out]; rfl), ChgF.refl _ _ _, fun fs' q => ?_⟩
    rw [HF.out] at q
    cases q
    exact ⟨ChgF.refl _ _ _, ga, gc, H.out, .inl rfl⟩
  · have e1 : (x == -1) = false := by simp [hn]
    have hgi : fs.gs[i]? = some fs.gs[i] := List.getElem?_eq_getElem hi
    have hR2 : R = if i ≠ 0 ∨ x = 0 then some (setEn fs i fs.gs[i] x) else none := by rw [hR]; unfold endF; rw [if_neg hn, hgi]
    obtain ⟨g, rfl, k0, k1, k2, kf, hgB, hgl⟩ := gp_at h.own i hi
    have c1 := h.c1
    have c3 := h.c3
    have f3 := h.f3
    have hne : f.F ≠ g := by have := h.l0; omega
    have HS := hidS (h.setEnd i fs.gs[i] hgi x)
    have i1 : (0 : Int) ≤ (i : Int) := by omega
    have i2 : (i : Int) < (fs.gs.length : Int) := by omega
    have hRb : R.isSome = decide (i ≠ 0 ∨ x = 0) := by
      rw [hR2]
      by_cases q : i ≠ 0 ∨ x = 0
      · rw [if_pos q]; exact (decide_eq_true q).symm
      · rw [if_neg q]; exact (decide_eq_false q).symm
    have HRb := hidS hRb
    by_cases he : fs.gs[i].en = -1
    · have HF : Hid (∀ fs', R = some fs' → fs' = { fs with gs := fs.gs.set i ⟨fs.gs[i].b, fs.gs[i].f, x⟩, grew := true }) := fun fs' q => by
        rw [hR2] at q
        split at q
        · cases q; unfold setEn; rw [if_pos he]
        · cases q
      rw [he] at k2
      have q3 : (w.setCell ⟨g, i * 3 + 2, none⟩ (.int .i64 x)).cell? ⟨f.F, 3, none⟩ = some (.bool fs.grew) := (cellF _ _ _ _ _ _ hne).trans c3
      clear h hR hR2 hRb he hgi
      have HC : Hid (ChgF f (.slice (some ⟨g, 0, none⟩) fs.gs.length gc) w ((w.setCell ⟨g, i * 3 + 2, none⟩ (.int .i64 x)).setCell ⟨f.F, 3, none⟩ (.bool true))) :=
        ⟨rfl, rfl, rfl, by simp, fun k h1 h2 h3 h4 => (set_far _ f.F 3 _ k h2).trans (set_far _ g _ _ k (fun e => h4 (by rw [e]; rfl)))⟩
      go_enter Try.func73, Try.ntmps73
      go_wp2
      all_goals
        go_ret
        refine ⟨retS_bool (by rw [HRb.out]; grind), (by first | exact HC.out | (have hcc := HC.out; have e0 : i * 3 + 2 = 2 := (by omega); rw [e0] at hcc; exact hcc)), fun fs' q => ?_⟩
        rw [HF.out fs' q]
        refine ⟨(by first | exact HC.out | (have hcc := HC.out; have e0 : i * 3 + 2 = 2 := (by omega); rw [e0] at hcc; exact hcc)), some ⟨g, 0, none⟩, gc, by first | exact HS.out | (have hss := HS.out; have e0 : i * 3 + 2 = 2 := (by omega); rw [e0] at hss; exact hss), .inl (by simp [Value.ownBlock])⟩
    · have e2 : (fs.gs[i].en == -1) = false := by simp [he]
      have HF : Hid (∀ fs', R = some fs' → fs' = fs) := fun fs' q => by
        rw [hR2] at q
        split at q
        · cases q; unfold setEn; rw [if_neg he]
        · cases q
      clear h hR hR2 hRb hgi HS
      generalize fs.gs[i].en = EN at *
      go_enter Try.func73, Try.ntmps73
      go_wp2
      all_goals
        go_ret
        refine ⟨retS_bool (by rw [HRb.out]; grind), ChgF.refl _ _ _, fun fs' q => ?_⟩
        rw [HF.out fs' q]
        exact ⟨ChgF.refl _ _ _, some ⟨g, 0, none⟩, gc, H.out, .inl rfl⟩
end Go.Proofs.Ytffkejkgkgfnhaa
namespace Go.Proofs.Ytffkejkgkgfnhaa
open Go.RowKit
set_option linter.unusedVariables false
structure Fr (f : Fp) (w w' : World) : Prop where
  os : w'.os = w.os
  tape : w'.tape = w.tape
  output : w'.output = w.output
  size : w.heap.size ≤ w'.heap.size
  block : ∀ k, k < f.B → k ≠ f.F → k ≠ f.cg → w'.heap[k]? = w.heap[k]?
theorem Fr.refl (f : Fp) (w : World) : Fr f w w := ⟨rfl, rfl, rfl, Nat.le_refl _, fun _ _ _ _ => rfl⟩
theorem Fr.trans {f : Fp} {a b c : World} (h : Fr f a b) (k : Fr f b c) : Fr f a c := ⟨k.os.trans h.os, k.tape.trans h.tape, k.output.trans h.output, Nat.le_trans h.size k.size, fun i h1 h2 h3 => (k.block i h1 h2 h3).trans (h.block i h1 h2 h3)⟩
theorem PkOK.far {w w' : World} {P B : Nat} {oa : Option Addr} {oc : Nat} {ps : PS} (h : PkOK w P B oa oc ps) (hs : w.heap.size ≤ w'.heap.size) (h0 : w'.heap[P]? = w.heap[P]?) (h1 : ∀ g, (Value.slice oa ps.op.length oc).ownBlock = some g → w'.heap[g]? = w.heap[g]?) : PkOK w' P B oa oc ps :=
  ⟨(World.cell?_of_block h0).trans h.c0, (World.cell?_of_block h0).trans h.c1, (World.frozen?_of_block h0).trans h.f0, (World.frozen?_of_block h0).trans h.f1, own_far h.own h1, h.lt, by have := h.le; omega, h.len, h.ran⟩
/-- the finder and the path, apart from one another -/
structure Cm (s : ByteArray) (A : List Ak) (w : World) (f : Fp) (ga : Option Addr) (gc : Nat) (fs : FS) (P B : Nat) (oa : Option Addr) (oc : Nat) (ps : PS) : Prop where
  fk : FkOK s A w f ga gc fs
  pk : PkOK w P B oa oc ps
  dj : ∀ g, (Value.slice ga fs.gs.length gc).ownBlock = some g → g ≠ P ∧ some g ≠ (Value.slice oa ps.op.length oc).ownBlock
  le : f.B ≤ P
  opr : ∀ q ∈ ps.op, (-1 ≤ q.1 ∧ q.1 ≤ 23) ∧ -1 ≤ q.2 ∧ q.2 ≤ 23
def Cmb (s : ByteArray) (A : List Ak) (w : World) (f : Fp) (fs : FS) (P B : Nat) (ps : PS) : Prop := ∃ ga gc oa oc, Cm s A w f ga gc fs P B oa oc ps
theorem Cm.path {s : ByteArray} {A : List Ak} {w w' : World} {f : Fp} {ga : Option Addr} {gc : Nat} {fs : FS} {P B : Nat} {oa : Option Addr} {oc : Nat} {ps ps' : PS} (h : Cm s A w f ga gc fs P B oa oc ps) (k : POut w w' P B oa oc ps.op.length ps') (ho : ∀ q ∈ ps'.op, (-1 ≤ q.1 ∧ q.1 ≤ 23) ∧ -1 ≤ q.2 ∧ q.2 ≤ 23) : Cmb s A w' f fs P B ps' ∧ Fr f w w' := by
  obtain ⟨hc, oa', oc', hp, hor⟩ := k
  have l0 := h.fk.l0
  have l1 := h.fk.l1
  have l2 := h.fk.l2
  have l3 := h.fk.l3
  have hlt := h.pk.lt
  have hle := h.le
  have nb : ∀ k, k < P → some k ≠ (Value.slice oa ps.op.length oc).ownBlock := fun k hk e => by have := (h.pk.own.lt k e.symm).1; omega
  have same : ∀ k, k < w.heap.size → k < P → w'.heap[k]? = w.heap[k]? := fun k h1 h2 => hc.block k h1 (by omega) (nb k h2)
  refine ⟨⟨ga, gc, oa', oc', h.fk.far hc.size (same _ (by omega) (by omega)) (same _ (by omega) (by omega)) (same _ (by omega) (by omega)) (fun g hg => hc.block g (h.fk.own.lt g hg).2 (h.dj g hg).1 (h.dj g hg).2), hp, fun g hg => ⟨(h.dj g hg).1, fun e => ?_⟩, h.le, ho⟩, ⟨hc.os, hc.tape, hc.output, hc.size, fun k h1 h2 h3 => same k (by omega) (by omega)⟩⟩
  rcases hor with q | ⟨g', q1, q2⟩
  · exact (h.dj g hg).2 (e.trans q)
  · rw [q2] at e
    cases e
    have := (h.fk.own.lt g hg).2
    omega
theorem Cm.fin {s : ByteArray} {A : List Ak} {w w' : World} {f : Fp} {ga : Option Addr} {gc : Nat} {fs fs' : FS} {P B : Nat} {oa : Option Addr} {oc : Nat} {ps : PS} (h : Cm s A w f ga gc fs P B oa oc ps) (k : FOut s A f ga gc fs.gs.length w w' fs') : Cmb s A w' f fs' P B ps ∧ Fr f w w' := by
  obtain ⟨hc, ga', gc', hp, hor⟩ := k
  have l0 := h.fk.l0
  have l1 := h.fk.l1
  have l2 := h.fk.l2
  have l3 := h.fk.l3
  have hlt := h.pk.lt
  have hle := h.le
  have hpl := h.pk.le
  refine ⟨⟨ga', gc', oa, oc, hp, h.pk.far hc.size (hc.block P (by omega) (by omega) (by omega) (fun e => (h.dj P e.symm).1 rfl)) (fun g hg => hc.block g (h.pk.own.lt g hg).2 (by have := (h.pk.own.lt g hg).1; omega) (by have := (h.pk.own.lt g hg).1; omega) (fun e => (h.dj g e.symm).2 hg.symm)), fun g hg => ?_, h.le, h.opr⟩, ⟨hc.os, hc.tape, hc.output, hc.size, fun k h1 h2 h3 => hc.block k (by omega) h2 h3 (fun e => by have := (h.fk.own.lt k e.symm).1; omega)⟩⟩
  rcases hor with q | ⟨g', q1, q2⟩
  · exact h.dj g (by rw [← q]; exact hg)
  · rw [q2] at hg
    have hgg : g' = g := by simpa using hg
    refine ⟨by omega, fun e => ?_⟩
    have := (h.pk.own.lt g e.symm).2
    omega
theorem FOut.of_fill {s : ByteArray} {A : List Ak} {f : Fp} {ga : Option Addr} {gc n : Nat} {w w' : World} {fs : FS} (h : ChgF f (.slice none 0 0) w w') (k : FkOK s A w' f ga gc fs) (hn : fs.gs.length = n) : FOut s A f ga gc n w w' fs :=
  ⟨⟨h.os, h.tape, h.output, h.size, fun i h1 h2 h3 h4 => h.block i h1 h2 h3 (by simp [Value.ownBlock])⟩, ga, gc, k, .inl (by rw [hn])⟩
theorem POut.of_read {w w' : World} {P B : Nat} {oa : Option Addr} {oc n : Nat} {ps : PS} (h : ChgB w w' P (.slice none 0 0)) (k : PkOK w' P B oa oc ps) (hn : ps.op.length = n) : POut w w' P B oa oc n ps :=
  ⟨⟨h.os, h.tape, h.output, h.size, fun i h1 h2 h3 => h.block i h1 h2 (by simp [Value.ownBlock])⟩, oa, oc, k, .inl (by rw [hn])⟩
end Go.Proofs.Ytffkejkgkgfnhaa
namespace Go.Proofs.Ytffkejkgkgfnhaa
open Go.RowKit
set_option linter.unusedVariables false
theorem FkOK.drew {s : ByteArray} {A : List Ak} {w : World} {f : Fp} {ga : Option Addr} {gc : Nat} {fs : FS} (h : FkOK s A w f ga gc fs) : FkOK s A w.drew f ga gc fs := h.far (Nat.le_refl _) rfl rfl rfl (fun _ _ => rfl)
theorem Cm.drew {s : ByteArray} {A : List Ak} {w : World} {f : Fp} {ga : Option Addr} {gc : Nat} {fs : FS} {P B : Nat} {oa : Option Addr} {oc : Nat} {ps : PS} (h : Cm s A w f ga gc fs P B oa oc ps) : Cm s A w.drew f ga gc fs P B oa oc ps := ⟨h.fk.drew, h.pk.drew, h.dj, h.le, h.opr⟩
theorem Fr.drew (f : Fp) (w : World) : Fr f w w.drew := ⟨rfl, rfl, rfl, Nat.le_refl _, fun _ _ _ _ => rfl⟩
def TkPost (s : ByteArray) (A : List Ak) (f : Fp) (P B : Nat) (w : World) (R : Option (PS × FS)) (e : Ending) (w' : World) : Prop :=
  Fr f w w' ∧ ((R = none ∧ e = .returned (.bool false)) ∨ ∃ ps' fs', R = some (ps', fs') ∧ e = .returned (.bool true) ∧ Cmb s A w' f fs' P B ps')
set_option maxRecDepth 100000 in
set_option maxHeartbeats 2000000 in
theorem p107 (s : ByteArray) (A : List Ak) (w : World) (f : Fp) (fs : FS) (P B : Nat) (ps : PS) (i : Nat) (hi : i < A.length) (hop : ps.op.length < 1000) (hl : fs.gs.length ≤ 30000) (hgr : ∀ g ∈ fs.gs, -1 ≤ g.en ∧ g.en ≤ 23) (h : Cmb s A w f fs P B ps) :
    Calls Try.prog 74 #[.pointer (some ⟨f.F, 0, none⟩), .pointer (some ⟨P, 0, none⟩), .int .i64 i] w fun e w' => TkPost s A f P B w (takeF A i A[i].kind A[i].name ps fs) e w' := by
  obtain ⟨ga, gc, oa, oc, hC⟩ := h
  have H := hidS hC
  have c0 := hC.fk.c0
  have d0 := hC.pk.c0
  obtain ⟨a0, a1, _, _⟩ := hC.fk.act i hi
  have hran := hC.pk.ran
  have hA := hC.fk.la
  have i1 : (0 : Int) ≤ (i : Int) := by omega
  have i2 : (i : Int) < (A.length : Int) := by omega
  have Hfill := hidS (p111 s A w f ga gc fs i ps.now hi hran hC.fk)
  have Hcall := hidS (fun nm => p112 s A w.drew f ga gc fs nm ps.now hran hl hC.fk.drew)
  have HCR := hidS (call_range (A := A) (nm := A[i].name) (x0 := ps.now) hgr)
  have Hent := hidS (p113 w P B oa oc ps hop hC.pk)
  have Htrn := hidS (p114 w P B oa oc ps (fun q hq => (hC.opr q hq).1) hC.pk)
  have Hlea := hidS (p115 w P B oa oc ps (fun q hq => (hC.opr q hq).2) hC.pk)
  clear hC
  obtain ⟨R, hR⟩ : ∃ R, R = takeF A i A[i].kind A[i].name ps fs := ⟨_, rfl⟩
  rw [← hR]
  generalize A[i].kind = k at *
  generalize A[i].name = nm at *
  unfold takeF at hR
  by_cases h3 : k = 3
  · rw [if_pos h3] at hR
    have HF : Hid ((fillB ps.now = true → R = some (ps, fillF fs i ps.now)) ∧ (fillB ps.now = false → R = none)) := by
      show (fillB ps.now = true → R = some (ps, fillF fs i ps.now)) ∧ (fillB ps.now = false → R = none)
      rw [hR]
      by_cases q : ps.now = -1
      · simp [q, fillB, fillF]
      · cases ho : opS ps.now.toNat <;> simp [q, fillB, fillF, ho]
    have e3 : (k == 3) = true := by simp [h3]
    clear hR h3
    go_enter Try.func74, Try.ntmps74
    go_wp2_with fail
    refine Hfill.out.mono ?_
    rintro e w1 ⟨rfl, hch, hfk⟩
    have hgs : (fillF fs i ps.now).gs = fs.gs := by unfold fillF; split <;> (try split) <;> rfl
    obtain ⟨hcm, hfr⟩ := H.out.fin (FOut.of_fill hch hfk (by rw [hgs]))
    have HCM := hidS hcm
    have HFR := hidS hfr
    clear hch hfk hcm hfr Hfill Hcall Hent Htrn Hlea
    go_wp2
    go_ret
    refine ⟨HFR.out, ?_⟩
    cases hb : fillB ps.now
    · exact .inl ⟨HF.out.2 hb, rfl⟩
    · exact .inr ⟨ps, _, HF.out.1 hb, rfl, HCM.out⟩
  · have e3 : (k == 3) = false := by simp [h3]
    rw [if_neg h3] at hR
    by_cases h8 : k = 8
    · rw [if_pos h8] at hR
      have e8 : (k == 8) = true := by simp [h8]
      have HF := hidS hR
      clear hR h3 h8
      go_enter Try.func74, Try.ntmps74
      go_wp2
      go_region_with (first | (go_at_call 92; refine (Hcall.out nm).mono ?_; rintro e w1 ⟨rfl, ho⟩; obtain ⟨⟨ga', gc', oa', oc', hcm'⟩, hfr⟩ := H.out.drew.fin ho; have q0 := hcm'.pk.c0; have q1 := hcm'.pk.f0))
      all_goals
        have hcr : -1 ≤ (callF A nm ps.now fs).1 ∧ (callF A nm ps.now fs).1 ≤ 23 := HCR.out
        have hp2 : POut w1 (w1.setCell ⟨P, 0, none⟩ (.int .i64 (callF A nm ps.now fs).1)) P B oa' oc' ps.op.length { ps with now := (callF A nm ps.now fs).1 } := ⟨(ChgB.refl _ _ _).set 0 _, oa', oc', hcm'.pk.setNow _ hcr, .inl rfl⟩
        obtain ⟨hcm2, hfr2⟩ := hcm'.path hp2 hcm'.opr
        have HCM := hidS hcm2
        have HFR := hidS (((Fr.drew f w).trans hfr).trans hfr2)
        clear ho hcm' hp2 hcm2 hfr hfr2 Hfill Hcall Hent Htrn Hlea
        go_wp2
        go_ret
        refine ⟨HFR.out, .inr ⟨_, _, HF.out, rfl, HCM.out⟩⟩
    · have e8 : (k == 8) = false := by simp [h8]
      rw [if_neg h8] at hR
      by_cases h46 : k = 4 ∨ k = 6
      · rw [if_pos h46] at hR
        have HF := hidS hR
        have hro : ∀ q ∈ (enterF ps).op, (-1 ≤ q.1 ∧ q.1 ≤ 23) ∧ -1 ≤ q.2 ∧ q.2 ≤ 23 := fun q hq => by
          simp only [enterF] at hq
          rcases List.mem_append.1 hq with hq | hq
          · exact H.out.opr q hq
          · simp at hq; subst hq; exact ⟨hran, hran⟩
        have HRO := hidS hro
        have e46 : (k == 4) = true ∨ (k == 4) = false ∧ (k == 6) = true := by simp; omega
        clear hR h3 h8 h46 hro
        rcases e46 with e4 | ⟨e4, e6⟩
        all_goals
          go_enter Try.func74, Try.ntmps74
          go_wp2_with fail
          refine Hent.out.mono ?_
          rintro e w1 ⟨rfl, ho⟩
          obtain ⟨hcm, hfr⟩ := H.out.path ho HRO.out
          have HCM := hidS hcm
          have HFR := hidS hfr
          clear ho hcm hfr Hfill Hcall Hent Htrn Hlea
          go_wp2
          go_ret
          exact ⟨HFR.out, .inr ⟨_, _, HF.out, rfl, HCM.out⟩⟩
      · rw [if_neg h46] at hR
        have e4 : (k == 4) = false := by simp; omega
        have e6 : (k == 6) = false := by simp; omega
        by_cases h5 : k = 5
        · rw [if_pos h5] at hR
          have HF := hidS hR
          have e5 : (k == 5) = true := by simp [h5]
          have hro : ∀ q ∈ (turnF ps).op, (-1 ≤ q.1 ∧ q.1 ≤ 23) ∧ -1 ≤ q.2 ∧ q.2 ≤ 23 := fun q hq => by
            unfold turnF at hq
            split at hq
            · rename_i l hl'
              have hm := List.mem_of_getLast? hl'
              simp only at hq
              rcases List.mem_append.1 hq with hq | hq
              · exact H.out.opr q (List.dropLast_subset _ hq)
              · simp at hq; subst hq; exact ⟨(H.out.opr l hm).1, hran⟩
            · exact H.out.opr q hq
          have HRO := hidS hro
          clear hR h3 h8 h46 h5 hro
          go_enter Try.func74, Try.ntmps74
          go_wp2_with fail
          refine Htrn.out.mono ?_
          rintro e w1 ⟨rfl, ho⟩
          obtain ⟨hcm, hfr⟩ := H.out.path ho HRO.out
          have HCM := hidS hcm
          have HFR := hidS hfr
          clear ho hcm hfr Hfill Hcall Hent Htrn Hlea
          go_wp2
          go_ret
          exact ⟨HFR.out, .inr ⟨_, _, HF.out, rfl, HCM.out⟩⟩
        · rw [if_neg h5] at hR
          have e5 : (k == 5) = false := by simp [h5]
          by_cases h7 : k = 7
          · rw [if_pos h7] at hR
            have e7 : (k == 7) = true := by simp [h7]
            have HF : Hid (((leaveF ps).2 = true → R = some ((leaveF ps).1, fs)) ∧ ((leaveF ps).2 = false → R = none)) := by
              show ((leaveF ps).2 = true → R = some ((leaveF ps).1, fs)) ∧ ((leaveF ps).2 = false → R = none)
              rw [hR]
              cases (leaveF ps).2 <;> simp
            have hro : ∀ q ∈ (leaveF ps).1.op, (-1 ≤ q.1 ∧ q.1 ≤ 23) ∧ -1 ≤ q.2 ∧ q.2 ≤ 23 := fun q hq => by
              unfold leaveF at hq
              split at hq
              · exact H.out.opr q (List.dropLast_subset _ hq)
              · exact H.out.opr q hq
            have HRO := hidS hro
            clear hR h3 h8 h46 h5 h7 hro
            go_enter Try.func74, Try.ntmps74
            go_wp2_with fail
            refine Hlea.out.mono ?_
            rintro e w1 ⟨rfl, ho⟩
            obtain ⟨hcm, hfr⟩ := H.out.path ho HRO.out
            have HCM := hidS hcm
            have HFR := hidS hfr
            clear ho hcm hfr Hfill Hcall Hent Htrn Hlea
            go_wp2
            go_ret
            refine ⟨HFR.out, ?_⟩
            cases hb : (leaveF ps).2
            · exact .inl ⟨HF.out.2 hb, rfl⟩
            · exact .inr ⟨_, _, HF.out.1 hb, rfl, HCM.out⟩
          · rw [if_neg h7] at hR
            have e7 : (k == 7) = false := by simp [h7]
            have HF := hidS hR
            clear hR h3 h8 h46 h5 h7 Hfill Hcall Hent Htrn Hlea
            go_enter Try.func74, Try.ntmps74
            go_wp2
            go_ret
            exact ⟨Fr.refl _ _, .inr ⟨_, _, HF.out, rfl, ga, gc, oa, oc, H.out⟩⟩
end Go.Proofs.Ytffkejkgkgfnhaa
