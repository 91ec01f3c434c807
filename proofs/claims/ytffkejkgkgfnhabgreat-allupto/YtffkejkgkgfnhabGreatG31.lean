import Derived.Test.YtffkejkgkgfnhabGreatG30
namespace Go.Proofs.YtffkejkgkgfnhabGreat
set_option linter.unusedVariables false
theorem gs_range {A : List Ak} {β : Nat → Nat} {V : Ev → Prop} {a b : FS} (h : Rcd A β V a b) (hg : ∀ g ∈ a.gs, -1 ≤ g.en ∧ g.en ≤ 23) : ∀ g ∈ b.gs, -1 ≤ g.en ∧ g.en ≤ 23 := by
  obtain ⟨l, e, p⟩ := h.gsP
  intro g hg'
  rw [e] at hg'
  rcases List.mem_append.1 hg' with q | q
  · exact hg g q
  · rw [(p g q).1]; omega
theorem rcd_none {A : List Ak} {β : Nat → Nat} {V V' : Ev → Prop} {a b : FS} (h : Rcd A β V a b) (hV : ∀ e, e ≠ .bad → (V' e ↔ V e)) : Rcd A β V' a b :=
  h.trans (Rcd.refl A β (fun _ => False) b (fun _ _ h => h) (fun _ _ h => h)) (fun e he => by rw [hV e he]; simp)
theorem run_enter (s : ByteArray) (A pre rest : List Ak) (k : Int) (nm : ByteArray) (p : Nat) (hA : A = pre ++ ⟨k, nm, p⟩ :: rest) (hk : k = 4 ∨ k = 6) (ps : PS) (fs : FS) (hn : ps.now ≠ -1 → rdF ps.now (s.extract (lastN s 0 pre) p) ≠ -1) (x0 : Int) (hx : rdF ps.now (s.extract (lastN s 0 pre) p) = x0) :
    runF s A (⟨k, nm, p⟩ :: rest) pre.length ps fs = runF s A rest (pre ++ [(⟨k, nm, p⟩ : Ak)]).length ⟨x0, ps.op ++ [(x0, x0)]⟩ fs := by
  rw [runF_go s A pre rest ⟨k, nm, p⟩ hA ps fs hn (by show k ≠ 2; omega)]
  have : takeF A pre.length k nm { ps with now := rdF ps.now (s.extract (lastN s 0 pre) p) } fs = some (⟨x0, ps.op ++ [(x0, x0)]⟩, fs) := by
    rw [hx]
    unfold takeF
    rw [if_neg (by omega), if_neg (by omega), if_pos hk]
    rfl
  simp only [this]
theorem run_turn (s : ByteArray) (A pre rest : List Ak) (nm : ByteArray) (p : Nat) (hA : A = pre ++ ⟨5, nm, p⟩ :: rest) (y a o : Int) (op : List (Int × Int)) (fs : FS) (hn : y ≠ -1 → rdF y (s.extract (lastN s 0 pre) p) ≠ -1) (x2 : Int) (hx : rdF y (s.extract (lastN s 0 pre) p) = x2) :
    runF s A (⟨5, nm, p⟩ :: rest) pre.length ⟨y, op ++ [(a, o)]⟩ fs = runF s A rest (pre ++ [(⟨5, nm, p⟩ : Ak)]).length ⟨a, op ++ [(a, x2)]⟩ fs := by
  rw [runF_go s A pre rest ⟨5, nm, p⟩ hA ⟨y, op ++ [(a, o)]⟩ fs hn (by show (5 : Int) ≠ 2; decide)]
  have : takeF A pre.length 5 nm ⟨rdF y (s.extract (lastN s 0 pre) p), op ++ [(a, o)]⟩ fs = some (⟨a, op ++ [(a, x2)]⟩, fs) := by
    rw [hx]
    unfold takeF
    rw [if_neg (by decide), if_neg (by decide), if_neg (by decide), if_pos rfl, turn_at]
  simp only [this]
theorem run_leave (s : ByteArray) (A pre rest : List Ak) (nm : ByteArray) (p : Nat) (hA : A = pre ++ ⟨7, nm, p⟩ :: rest) (y a o : Int) (op : List (Int × Int)) (fs : FS) (hn : y ≠ -1 → rdF y (s.extract (lastN s 0 pre) p) ≠ -1) (x2 xm : Int) (hx : rdF y (s.extract (lastN s 0 pre) p) = x2) (hm : xm = if x2 = -1 then o else x2) :
    runF s A (⟨7, nm, p⟩ :: rest) pre.length ⟨y, op ++ [(a, o)]⟩ fs = if o = -1 ∨ o = xm then runF s A rest (pre ++ [(⟨7, nm, p⟩ : Ak)]).length ⟨xm, op⟩ fs else none := by
  rw [runF_go s A pre rest ⟨7, nm, p⟩ hA ⟨y, op ++ [(a, o)]⟩ fs hn (by show (7 : Int) ≠ 2; decide)]
  by_cases hk : o = -1 ∨ o = xm
  · have : takeF A pre.length 7 nm ⟨rdF y (s.extract (lastN s 0 pre) p), op ++ [(a, o)]⟩ fs = some (⟨xm, op⟩, fs) := by
      rw [hx]
      unfold takeF
      rw [if_neg (by decide), if_neg (by decide), if_neg (by decide), if_neg (by decide), if_pos rfl, leave_at, ← hm]
      rw [if_pos (by exact decide_eq_true hk)]
    rw [if_pos hk]
    simp only [this]
  · have : takeF A pre.length 7 nm ⟨rdF y (s.extract (lastN s 0 pre) p), op ++ [(a, o)]⟩ fs = none := by
      rw [hx]
      unfold takeF
      rw [if_neg (by decide), if_neg (by decide), if_neg (by decide), if_neg (by decide), if_pos rfl, leave_at, ← hm]
      rw [if_neg (by simpa using hk)]
    rw [if_neg hk]
    simp only [this]
/-- the hypotheses at a place -/
def At (s : ByteArray) (A : List Ak) (ts : List Tm) (β : Nat → Nat) (E : En) (b : Nds) (A1 : List Ak) (p e : Nat) : Prop :=
  ∀ (pre post : List Ak) (a0 : Ak) (ps : PS) (fs : FS), A = pre ++ (A1 ++ a0 :: post) → a0.at' = e → e ≤ s.size → lastN s 0 pre ≤ p → WfN ts b → (∀ t x y, enG β fs.gs t x y ↔ E t x y) → (∀ g ∈ fs.gs, -1 ≤ g.en ∧ g.en ≤ 23) → (-1 ≤ ps.now ∧ ps.now ≤ 23) → (ps.now ≠ -1 → rdF ps.now (s.extract (lastN s 0 pre) p) ≠ -1) →
      Outc s A ts β E b (rdF ps.now (s.extract (lastN s 0 pre) p)) (lastN s 0 (pre ++ A1)) e (runF s A (A1 ++ a0 :: post) pre.length ps fs) (runF s A (a0 :: post) (pre ++ A1).length) ps.op fs
/-- right behind an action -/
theorem At.next {s : ByteArray} {A : List Ak} {ts : List Tm} {β : Nat → Nat} {E : En} {b : Nds} {A1 : List Ak} {e : Nat} {c : Ak} (h : At s A ts β E b A1 (act s c.at').next e) (pre post : List Ak) (a0 : Ak) (x : Int) (op : List (Int × Int)) (fs : FS) (hA : A = pre ++ c :: (A1 ++ a0 :: post)) (ha : a0.at' = e) (he : e ≤ s.size) (hw : WfN ts b) (hE : ∀ t x y, enG β fs.gs t x y ↔ E t x y) (hg : ∀ g ∈ fs.gs, -1 ≤ g.en ∧ g.en ≤ 23) (hx : -1 ≤ x ∧ x ≤ 23) :
    Outc s A ts β E b x (lastN s 0 (pre ++ [c] ++ A1)) e (runF s A (A1 ++ a0 :: post) (pre ++ [c]).length ⟨x, op⟩ fs) (runF s A (a0 :: post) (pre ++ [c] ++ A1).length) op fs := by
  have e1 : lastN s 0 (pre ++ [c]) = (act s c.at').next := lastN_snoc s pre c
  have e2 : rdF x (s.extract (lastN s 0 (pre ++ [c])) (act s c.at').next) = x := by rw [e1]; exact rd_empty s x _ hx
  have := h (pre ++ [c]) post a0 ⟨x, op⟩ fs (by rw [hA]; simp) ha he (by rw [e1]; exact Nat.le_refl _) hw hE hg hx (fun q => by show rdF x _ ≠ -1; rw [e2]; exact q)
  have e3 : rdF (⟨x, op⟩ : PS).now (s.extract (lastN s 0 (pre ++ [c])) (act s c.at').next) = x := e2
  rw [e3] at this
  exact this
theorem loop_case {s : ByteArray} {A : List Ak} {ts : List Tm} {β : Nat → Nat} {E : En} {p e e1 : Nat} {th r : Nds} {A1 A2 : List Ak} {n1 n7 : ByteArray} (he1 : e1 ≤ s.size) (ih1 : At s A ts β E th A1 (act s p).next e1) (ih : At s A ts β E r A2 (act s e1).next e) : At s A ts β E (.cons 4 p n1 th .nil false r) (⟨6, n1, p⟩ :: (A1 ++ ⟨7, n7, e1⟩ :: A2)) p e := by
  intro pre post a0 ps fs hA ha he hl hw hE hg hx hn
  have hr0 := rd_range ps.now (s.extract (lastN s 0 pre) p)
  have hA' : A = pre ++ ⟨6, n1, p⟩ :: (A1 ++ ⟨7, n7, e1⟩ :: (A2 ++ a0 :: post)) := by rw [hA]; simp
  have hl1 : (⟨6, n1, p⟩ :: (A1 ++ ⟨7, n7, e1⟩ :: A2)) ++ a0 :: post = (⟨6, n1, p⟩ : Ak) :: (A1 ++ ⟨7, n7, e1⟩ :: (A2 ++ a0 :: post)) := by simp
  have hl2 : pre ++ (⟨6, n1, p⟩ :: (A1 ++ ⟨7, n7, e1⟩ :: A2)) = (pre ++ [(⟨6, n1, p⟩ : Ak)] ++ A1) ++ [(⟨7, n7, e1⟩ : Ak)] ++ A2 := by simp
  rw [hl1, hl2, run_enter s A pre _ 6 n1 p hA' (.inr rfl) ps fs hn _ rfl]
  generalize rdF ps.now (s.extract (lastN s 0 pre) p) = x0 at *
  have o1 := ih1.next (c := ⟨6, n1, p⟩) pre (A2 ++ a0 :: post) ⟨7, n7, e1⟩ x0 (ps.op ++ [(x0, x0)]) fs hA' rfl he1 hw.2.2.2.2.1 hE hg hr0
  rcases o1 with ⟨o1, o2⟩ | ⟨y, fs1, o1, o2, o3, o4, o5, o6⟩
  · refine bad_piece o1 ?_
    show evt ts E th (lfp (sem ts E th) (opt x0)) .bad
    exact evt_mono (fun _ _ _ q => q) _ th _ _ (fun z hz => lfp_in _ _ z hz) o2
  · rw [o1]
    have hr2 := rd_range y (s.extract (lastN s 0 (pre ++ [(⟨6, n1, p⟩ : Ak)] ++ A1)) e1)
    obtain ⟨x2, hx2⟩ : ∃ x2, x2 = rdF y (s.extract (lastN s 0 (pre ++ [(⟨6, n1, p⟩ : Ak)] ++ A1)) e1) := ⟨_, rfl⟩
    obtain ⟨xm, hxm⟩ : ∃ xm, xm = if x2 = -1 then x0 else x2 := ⟨_, rfl⟩
    rw [run_leave s A (pre ++ [(⟨6, n1, p⟩ : Ak)] ++ A1) (A2 ++ a0 :: post) n7 e1 (by rw [hA']; simp) y x0 x0 ps.op fs1 o3 x2 xm hx2.symm hxm]
    rw [← hx2] at hr2 o4
    have hxr : -1 ≤ xm ∧ xm ≤ 23 := by rw [hxm]; split <;> omega
    by_cases hk : x0 = -1 ∨ x0 = xm
    · rw [if_pos hk]
      have o7 := ih.next (c := ⟨7, n7, e1⟩) (pre ++ [(⟨6, n1, p⟩ : Ak)] ++ A1) post a0 xm ps.op fs1 (by rw [hA']; simp) ha he hw.2.2.2.2.2.2 (o6.en E hE) (gs_range o6 hg) hxr
      have hk' : x2 = -1 ∨ x2 = x0 := by
        rcases hk with q | q
        · left
          rcases opt_eq hr2.1 with e5 | ⟨n, e5⟩
          · exact e5
          · exfalso
            exact sem_none ts E th (opt x0) (fun z => by rw [q]; exact opt_none z) n ((o4 n).2 (by rw [e5]; exact (opt_nat n n).2 rfl))
        · rw [hxm] at q
          by_cases e5 : x2 = -1
          · exact .inl e5
          · rw [if_neg e5] at q; exact .inr q.symm
      have hxe : xm = x0 := by rcases hk' with e5 | e5 <;> simp [hxm, e5]
      have hlf := lfp_opt o4 hk' hxm
      have hlf' : lfp (sem ts E th) (opt x0) = opt x0 := funext fun z => propext (by rw [← hxe]; rw [hxe]; have := hlf z; rw [hxe] at this; exact this)
      refine good_cons (fun z => hlf z) ?_ (rcd_none o6 (fun ev _ => ?_)) o7
      · show ¬ evt ts E th (lfp (sem ts E th) (opt x0)) .bad
        rw [hlf']; exact o5
      · show evt ts E th (lfp (sem ts E th) (opt x0)) ev ↔ _
        rw [hlf']
    · rw [if_neg hk]
      refine bad_piece rfl ?_
      show evt ts E th (lfp (sem ts E th) (opt x0)) .bad
      refine evt_two th (or_two hr2.1 hr0.1 hxm hk (fun z hz => ?_) (fun z hz => lfp_in _ _ z hz))
      exact lfp_step _ _ (sem_mono (fun _ _ _ q => q) th) z (sem_mono (fun _ _ _ q => q) th _ _ (fun y hy => lfp_in _ _ y hy) z ((o4 z).2 hz))
theorem one_case {s : ByteArray} {A : List Ak} {ts : List Tm} {β : Nat → Nat} {E : En} {p e e1 : Nat} {th r : Nds} {A1 A2 : List Ak} {n1 n7 : ByteArray} (he1 : e1 ≤ s.size) (ih1 : At s A ts β E th A1 (act s p).next e1) (ih : At s A ts β E r A2 (act s e1).next e) : At s A ts β E (.cons 3 p n1 th .nil false r) (⟨4, n1, p⟩ :: (A1 ++ ⟨7, n7, e1⟩ :: A2)) p e := by
  intro pre post a0 ps fs hA ha he hl hw hE hg hx hn
  have hr0 := rd_range ps.now (s.extract (lastN s 0 pre) p)
  have hA' : A = pre ++ ⟨4, n1, p⟩ :: (A1 ++ ⟨7, n7, e1⟩ :: (A2 ++ a0 :: post)) := by rw [hA]; simp
  have hl1 : (⟨4, n1, p⟩ :: (A1 ++ ⟨7, n7, e1⟩ :: A2)) ++ a0 :: post = (⟨4, n1, p⟩ : Ak) :: (A1 ++ ⟨7, n7, e1⟩ :: (A2 ++ a0 :: post)) := by simp
  have hl2 : pre ++ (⟨4, n1, p⟩ :: (A1 ++ ⟨7, n7, e1⟩ :: A2)) = (pre ++ [(⟨4, n1, p⟩ : Ak)] ++ A1) ++ [(⟨7, n7, e1⟩ : Ak)] ++ A2 := by simp
  rw [hl1, hl2, run_enter s A pre _ 4 n1 p hA' (.inl rfl) ps fs hn _ rfl]
  generalize rdF ps.now (s.extract (lastN s 0 pre) p) = x0 at *
  have o1 := ih1.next (c := ⟨4, n1, p⟩) pre (A2 ++ a0 :: post) ⟨7, n7, e1⟩ x0 (ps.op ++ [(x0, x0)]) fs hA' rfl he1 hw.2.2.2.2.1 hE hg hr0
  rcases o1 with ⟨o1, o2⟩ | ⟨y, fs1, o1, o2, o3, o4, o5, o6⟩
  · exact bad_piece o1 (.inl o2)
  · rw [o1]
    have hr2 := rd_range y (s.extract (lastN s 0 (pre ++ [(⟨4, n1, p⟩ : Ak)] ++ A1)) e1)
    obtain ⟨x2, hx2⟩ : ∃ x2, x2 = rdF y (s.extract (lastN s 0 (pre ++ [(⟨4, n1, p⟩ : Ak)] ++ A1)) e1) := ⟨_, rfl⟩
    obtain ⟨xm, hxm⟩ : ∃ xm, xm = if x2 = -1 then x0 else x2 := ⟨_, rfl⟩
    rw [run_leave s A (pre ++ [(⟨4, n1, p⟩ : Ak)] ++ A1) (A2 ++ a0 :: post) n7 e1 (by rw [hA']; simp) y x0 x0 ps.op fs1 o3 x2 xm hx2.symm hxm]
    rw [← hx2] at hr2 o4
    have hxr : -1 ≤ xm ∧ xm ≤ 23 := by rw [hxm]; split <;> omega
    by_cases hk : x0 = -1 ∨ x0 = xm
    · rw [if_pos hk]
      have o7 := ih.next (c := ⟨7, n7, e1⟩) (pre ++ [(⟨4, n1, p⟩ : Ak)] ++ A1) post a0 xm ps.op fs1 (by rw [hA']; simp) ha he hw.2.2.2.2.2.2 (o6.en E hE) (gs_range o6 hg) hxr
      refine good_cons (fun z => ?_) ?_ (rcd_none o6 (fun ev _ => ?_)) o7
      · show (sem ts E th (opt x0) z ∨ (if (false : Bool) = true then _ else opt x0 z)) ↔ _
        rw [if_neg (by decide), o4 z]
        exact or_opt hr2.1 hr0.1 hxm hk z
      · rintro (q | ⟨q, _⟩)
        · exact o5 q
        · cases q
      · exact ⟨fun q => q.elim (fun q => q) (fun q => by cases q.1), .inl⟩
    · rw [if_neg hk]
      refine .inl ⟨rfl, .inr (.inr (evt_two r (or_two hr2.1 hr0.1 hxm hk (fun z hz => ?_) (fun z hz => ?_))))⟩
      · exact .inl ((o4 z).2 hz)
      · right
        rw [if_neg (by decide)]
        exact hz
theorem two_case {s : ByteArray} {A : List Ak} {ts : List Tm} {β : Nat → Nat} {E : En} {p e e1 e2 : Nat} {th el r : Nds} {A1 A2 A3 : List Ak} {n1 n5 n7 : ByteArray} (he1 : e1 ≤ s.size) (he2 : e2 ≤ s.size) (ih1 : At s A ts β E th A1 (act s p).next e1) (ih2 : At s A ts β E el A2 (act s e1).next e2) (ih : At s A ts β E r A3 (act s e2).next e) :
    At s A ts β E (.cons 3 p n1 th el true r) (⟨4, n1, p⟩ :: (A1 ++ ⟨5, n5, e1⟩ :: (A2 ++ ⟨7, n7, e2⟩ :: A3))) p e := by
  intro pre post a0 ps fs hA ha he hl hw hE hg hx hn
  have hr0 := rd_range ps.now (s.extract (lastN s 0 pre) p)
  have hA' : A = pre ++ ⟨4, n1, p⟩ :: (A1 ++ ⟨5, n5, e1⟩ :: (A2 ++ ⟨7, n7, e2⟩ :: (A3 ++ a0 :: post))) := by rw [hA]; simp
  have hl1 : (⟨4, n1, p⟩ :: (A1 ++ ⟨5, n5, e1⟩ :: (A2 ++ ⟨7, n7, e2⟩ :: A3))) ++ a0 :: post = (⟨4, n1, p⟩ : Ak) :: (A1 ++ ⟨5, n5, e1⟩ :: (A2 ++ ⟨7, n7, e2⟩ :: (A3 ++ a0 :: post))) := by simp
  have hl2 : pre ++ (⟨4, n1, p⟩ :: (A1 ++ ⟨5, n5, e1⟩ :: (A2 ++ ⟨7, n7, e2⟩ :: A3))) = (pre ++ [(⟨4, n1, p⟩ : Ak)] ++ A1 ++ [(⟨5, n5, e1⟩ : Ak)] ++ A2) ++ [(⟨7, n7, e2⟩ : Ak)] ++ A3 := by simp
  rw [hl1, hl2, run_enter s A pre _ 4 n1 p hA' (.inl rfl) ps fs hn _ rfl]
  generalize rdF ps.now (s.extract (lastN s 0 pre) p) = x0 at *
  have o1 := ih1.next (c := ⟨4, n1, p⟩) pre (A2 ++ ⟨7, n7, e2⟩ :: (A3 ++ a0 :: post)) ⟨5, n5, e1⟩ x0 (ps.op ++ [(x0, x0)]) fs hA' rfl he1 hw.2.2.2.2.1 hE hg hr0
  rcases o1 with ⟨o1, o2⟩ | ⟨y, fs1, o1, o2, o3, o4, o5, o6⟩
  · exact bad_piece o1 (.inl o2)
  · rw [o1]
    have hr2 := rd_range y (s.extract (lastN s 0 (pre ++ [(⟨4, n1, p⟩ : Ak)] ++ A1)) e1)
    obtain ⟨x2, hx2⟩ : ∃ x2, x2 = rdF y (s.extract (lastN s 0 (pre ++ [(⟨4, n1, p⟩ : Ak)] ++ A1)) e1) := ⟨_, rfl⟩
    rw [run_turn s A (pre ++ [(⟨4, n1, p⟩ : Ak)] ++ A1) (A2 ++ ⟨7, n7, e2⟩ :: (A3 ++ a0 :: post)) n5 e1 (by rw [hA']; simp) y x0 x0 ps.op fs1 o3 x2 hx2.symm]
    rw [← hx2] at hr2 o4
    have p1 := ih2.next (c := ⟨5, n5, e1⟩) (pre ++ [(⟨4, n1, p⟩ : Ak)] ++ A1) (A3 ++ a0 :: post) ⟨7, n7, e2⟩ x0 (ps.op ++ [(x0, x2)]) fs1 (by rw [hA']; simp) rfl he2 hw.2.2.2.2.2.1 (o6.en E hE) (gs_range o6 hg) hr0
    rcases p1 with ⟨p1, p2⟩ | ⟨y3, fs2, p1, p2, p3, p4, p5, p6⟩
    · exact bad_piece p1 (.inr ⟨rfl, p2⟩)
    · rw [p1]
      have hr3 := rd_range y3 (s.extract (lastN s 0 (pre ++ [(⟨4, n1, p⟩ : Ak)] ++ A1 ++ [(⟨5, n5, e1⟩ : Ak)] ++ A2)) e2)
      obtain ⟨x3, hx3⟩ : ∃ x3, x3 = rdF y3 (s.extract (lastN s 0 (pre ++ [(⟨4, n1, p⟩ : Ak)] ++ A1 ++ [(⟨5, n5, e1⟩ : Ak)] ++ A2)) e2) := ⟨_, rfl⟩
      obtain ⟨xm, hxm⟩ : ∃ xm, xm = if x3 = -1 then x2 else x3 := ⟨_, rfl⟩
      rw [run_leave s A (pre ++ [(⟨4, n1, p⟩ : Ak)] ++ A1 ++ [(⟨5, n5, e1⟩ : Ak)] ++ A2) (A3 ++ a0 :: post) n7 e2 (by rw [hA']; simp) y3 x0 x2 ps.op fs2 p3 x3 xm hx3.symm hxm]
      rw [← hx3] at hr3 p4
      have hxr : -1 ≤ xm ∧ xm ≤ 23 := by rw [hxm]; split <;> omega
      have o8 := o6.trans (V := fun ev => evt ts E th (opt x0) ev ∨ evt ts E el (opt x0) ev) p6 (fun ev _ => Iff.rfl)
      by_cases hk : x2 = -1 ∨ x2 = xm
      · rw [if_pos hk]
        have o7 := ih.next (c := ⟨7, n7, e2⟩) (pre ++ [(⟨4, n1, p⟩ : Ak)] ++ A1 ++ [(⟨5, n5, e1⟩ : Ak)] ++ A2) post a0 xm ps.op fs2 (by rw [hA']; simp) ha he hw.2.2.2.2.2.2 (o8.en E hE) (gs_range o8 hg) hxr
        refine good_cons (fun z => ?_) ?_ (rcd_none o8 (fun ev _ => ?_)) o7
        · show (sem ts E th (opt x0) z ∨ (if (true : Bool) = true then sem ts E el (opt x0) z else _)) ↔ _
          rw [if_pos rfl, o4 z, p4 z]
          rw [Or.comm]
          exact or_opt hr3.1 hr2.1 hxm hk z
        · rintro (q | ⟨_, q⟩)
          · exact o5 q
          · exact p5 q
        · exact ⟨fun q => q.elim .inl (fun q => .inr q.2), fun q => q.elim .inl (fun q => .inr ⟨rfl, q⟩)⟩
      · rw [if_neg hk]
        refine .inl ⟨rfl, .inr (.inr (evt_two r (or_two hr3.1 hr2.1 hxm hk (fun z hz => ?_) (fun z hz => ?_))))⟩
        · right
          rw [if_pos rfl]
          exact (p4 z).2 hz
        · exact .inl ((o4 z).2 hz)
set_option maxHeartbeats 1000000 in
theorem flat_run (s : ByteArray) (A : List Ak) (ts : List Tm) (β : Nat → Nat) (E : En) (hβ : ∀ nm, 0 ≤ fndF nm ts 0 → hitB nm A = true ∧ idxA nm A 0 = β (tno ts nm)) {d p e : Nat} {b : Nds} {A1 : List Ak} (h : Flat s d b p A1 e) :
    At s A ts β E b A1 p e := by
  induction h with
  | nil d p =>
    intro pre post a0 ps fs hA ha he hl hw hE hg hx hn
    refine .inr ⟨ps.now, fs, by simp, hx, by simpa using hn, fun z => by simp [sem], fun q => opt_two _ q.2, Rcd.refl _ _ _ _ (fun _ _ q => by cases q.1) (fun _ _ q => by cases q.1)⟩
  | @text d p e r A1 h k ih =>
    intro pre post a0 ps fs hA ha he hl hw hE hg hx hn
    have hpe : skp s txB p ≤ e := k.le
    have hcat := rd_cat s ps.now (lastN s 0 pre) p (skp s txB p) hl (by omega) (by omega) hx
    have hr0 := rd_range ps.now (s.extract (lastN s 0 pre) p)
    by_cases hlost : ps.now ≠ -1 ∧ rdF ps.now (s.extract (lastN s 0 pre) (skp s txB p)) = -1
    · refine bad_piece ?_ ?_
      · obtain ⟨c, rest, hc, h1, h2⟩ : ∃ c rest, A1 ++ a0 :: post = c :: rest ∧ skp s txB p ≤ c.at' ∧ c.at' ≤ s.size := by
          rcases k.head with h0 | ⟨c, rest, h0, h1, h2⟩
          · subst h0; exact ⟨a0, post, rfl, by omega, by omega⟩
          · subst h0; exact ⟨c, rest ++ a0 :: post, rfl, h1, h2⟩
        rw [hc]
        exact runF_lost s A pre rest c (by rw [hA, hc]) ps fs (skp s txB p) hlost.1 hx (by omega) h1 h2 hlost.2
      · refine ⟨rfl, (rdF ps.now (s.extract (lastN s 0 pre) p)).toNat, ?_, ?_⟩
        · have := hn hlost.1; unfold opt; omega
        · have h1 := hn hlost.1
          rw [hcat] at hlost
          have h2 := hlost.2
          unfold rdF at h2
          have e1 : (if ps.now = -1 then -1 else scn ps.now (s.extract (lastN s 0 pre) p).data.toList) = rdF ps.now (s.extract (lastN s 0 pre) p) := rfl
          rw [e1, if_neg h1] at h2
          rw [Int.toNat_of_nonneg (by omega)]
          exact h2
    · have := ih pre post a0 ps fs hA ha he (by omega) hw.2.2.2.2.2.2 hE hg hx (fun q1 q2 => hlost ⟨q1, q2⟩)
      rw [hcat] at this
      refine good_cons (fun z => ?_) ?_ (Rcd.refl _ _ _ _ (fun _ _ q => by cases q.1) (fun _ _ q => by cases q.1)) this
      · show (∃ x, opt _ x ∧ scn x _ = (z : Int)) ↔ _
        rcases opt_eq hr0.1 with e1 | ⟨n, e1⟩
        · rw [e1, rd_none]
          exact ⟨fun ⟨x, q, _⟩ => absurd q (opt_none x), fun q => absurd q (opt_none z)⟩
        · rw [e1]
          have e2 : rdF (n : Int) (s.extract p (skp s txB p)) = scn n (s.extract p (skp s txB p)).data.toList := by unfold rdF; rw [if_neg (by omega)]
          rw [e2]
          constructor
          · rintro ⟨x, q1, q2⟩
            rw [opt_nat] at q1; subst q1; exact q2
          · intro q; exact ⟨n, (opt_nat n n).2 rfl, q⟩
      · rintro ⟨_, x, q1, q2⟩
        apply hlost
        have e1 : rdF ps.now (s.extract (lastN s 0 pre) p) = (x : Int) := q1
        refine ⟨fun e2 => ?_, ?_⟩
        · rw [e2, rd_none] at e1; omega
        · rw [hcat, e1]; unfold rdF; rw [if_neg (by omega)]; exact q2
  | @hole d p e r A1 h k ih =>
    intro pre post a0 ps fs hA ha he hl hw hE hg hx hn
    have hr0 := rd_range ps.now (s.extract (lastN s 0 pre) p)
    have hgo := runF_go s A pre (A1 ++ a0 :: post) ⟨3, (act s p).name, p⟩ (by rw [hA]; rfl) ps fs hn (by show (3 : Int) ≠ 2; decide)
    have hi : A[pre.length]? = some ⟨3, (act s p).name, p⟩ := by rw [hA, List.getElem?_append_right (Nat.le_refl _)]; simp
    simp only [List.cons_append]
    rw [hgo]
    generalize rdF ps.now (s.extract (lastN s 0 pre) p) = x0 at *
    by_cases hopn : x0 ≠ -1 ∧ opS x0.toNat = false
    · refine bad_piece ?_ ?_
      · simp [takeF, hopn.1, hopn.2]
      · refine ⟨x0.toNat, by unfold opt; omega, ?_⟩
        rw [if_neg (by rw [hopn.2]; decide)]
    · have ho : x0 ≠ -1 → opS x0.toNat = true := fun q => by
        cases hq : opS x0.toNat
        · exact absurd ⟨q, hq⟩ hopn
        · rfl
      have htk : takeF A pre.length 3 (act s p).name { ps with now := x0 } fs = some (⟨x0, ps.op⟩, if x0 = -1 then fs else { fs with cm := upd2 fs.cm pre.length x0.toNat }) := by
        unfold takeF
        rw [if_pos rfl]
        by_cases q : x0 = -1
        · simp [q]
        · simp only [q, if_false, ho q, if_true]
      show Outc _ _ _ _ _ _ _ _ _ (match takeF A pre.length 3 (act s p).name { ps with now := x0 } fs with | none => none | some (ps', fs') => runF s A (A1 ++ a0 :: post) (pre ++ [(⟨3, (act s p).name, p⟩ : Ak)]).length ps' fs') _ _ _
      rw [htk]
      have R1 := hole_rcd (A := A) (β := β) (fs := fs) (p := p) hr0.1 hi rfl ho
      have := ih (pre ++ [⟨3, (act s p).name, p⟩]) post a0 ⟨x0, ps.op⟩ _ (by rw [hA]; simp) ha he (by rw [lastN_snoc]; exact Nat.le_refl _) hw.2.2.2.2.2.2 (R1.en E hE) (gs_range R1 hg) hr0 (fun q => by rw [lastN_snoc, rd_empty s x0 _ hr0]; exact q)
      rw [lastN_snoc, rd_empty s x0 _ hr0] at this
      simp only [List.append_assoc, List.cons_append, List.nil_append] at this
      exact good_cons (fun z => Iff.rfl) (hole_bad hr0.1 ho) R1 (by simpa using this)
  | @call d p e r A1 h k ih =>
    intro pre post a0 ps fs hA ha he hl hw hE hg hx hn
    have hr0 := rd_range ps.now (s.extract (lastN s 0 pre) p)
    have hgo := runF_go s A pre (A1 ++ a0 :: post) ⟨8, (act s p).name, p⟩ (by rw [hA]; rfl) ps fs hn (by show (8 : Int) ≠ 2; decide)
    simp only [List.cons_append]
    rw [hgo]
    generalize rdF ps.now (s.extract (lastN s 0 pre) p) = x0 at *
    obtain ⟨hh, hi⟩ := hβ _ (hw.2.2.2.1 rfl)
    have R1 := call_rcd (A := A) (β := β) (fs := fs) hr0.1 hh hi
    have hcr := call_range (A := A) (nm := (act s p).name) (x0 := x0) hg
    have htk : takeF A pre.length 8 (act s p).name { ps with now := x0 } fs = some (⟨(callF A (act s p).name x0 fs).1, ps.op⟩, (callF A (act s p).name x0 fs).2) := by
      unfold takeF
      rw [if_neg (by decide), if_pos rfl]
    show Outc _ _ _ _ _ _ _ _ _ (match takeF A pre.length 8 (act s p).name { ps with now := x0 } fs with | none => none | some (ps', fs') => runF s A (A1 ++ a0 :: post) (pre ++ [(⟨8, (act s p).name, p⟩ : Ak)]).length ps' fs') _ _ _
    rw [htk]
    have := ih (pre ++ [⟨8, (act s p).name, p⟩]) post a0 ⟨(callF A (act s p).name x0 fs).1, ps.op⟩ _ (by rw [hA]; simp) ha he (by rw [lastN_snoc]; exact Nat.le_refl _) hw.2.2.2.2.2.2 (R1.en E hE) (gs_range R1 hg) hcr (fun q => by rw [lastN_snoc, rd_empty s _ _ hcr]; exact q)
    rw [lastN_snoc, rd_empty s _ _ hcr] at this
    exact good_cons (fun z => call_sem hr0.1 hh hi hE z) (by rintro ⟨x, _, q⟩; cases q) R1 (by simpa using this)
  | @loop d p e e1 th r A1 A2 hd h k1 h1 k2 ih1 ih => exact loop_case (by have := act_next s e1 (by omega); omega) ih1 ih
  | @one d p e e1 th r A1 A2 hd h k1 h1 k2 ih1 ih => exact one_case (by have := act_next s e1 (by omega); omega) ih1 ih
  | @two d p e e1 e2 th el r A1 A2 A3 hd h k1 h1 k2 h2 k3 ih1 ih2 ih => exact two_case (by have := act_next s e1 (by omega); omega) (by have := act_next s e2 (by omega); omega) ih1 ih2 ih
end Go.Proofs.YtffkejkgkgfnhabGreat
namespace Go.Proofs.YtffkejkgkgfnhabGreat
set_option linter.unusedVariables false
theorem fndF_app (nm : ByteArray) (ts us : List Tm) (i : Nat) : fndF nm (ts ++ us) i = orE (fndF nm ts i) (fndF nm us (i + ts.length)) := by
  induction ts generalizing i with
  | nil => simp [fndF, orE]
  | cons t r ih =>
    have e1 : fndF nm (t :: r ++ us) i = if nmEq t.name nm = true then (i : Int) else fndF nm (r ++ us) (i + 1) := rfl
    have e2 : fndF nm (t :: r) i = if nmEq t.name nm = true then (i : Int) else fndF nm r (i + 1) := rfl
    rw [e1, e2]
    by_cases h : nmEq t.name nm = true
    · rw [if_pos h, if_pos h, orE_pos _ _ (by omega)]
    · rw [if_neg h, if_neg h, ih (i + 1)]
      simp only [List.length_cons, show i + 1 + r.length = i + (r.length + 1) by omega]
theorem idxA_app (nm : ByteArray) (A B : List Ak) (k : Nat) : idxA nm (A ++ B) k = if hitB nm A = true then idxA nm A k else idxA nm B (k + A.length) := by
  induction A generalizing k with
  | nil => simp [hitB, names, seenB]
  | cons a r ih =>
    rw [List.cons_append]
    by_cases h : a.kind = 1 ∧ nmEq a.name nm = true
    · rw [idx_yes nm a _ k h.1 h.2, idx_yes nm a _ k h.1 h.2, hit_yes nm a r h.1 h.2, if_pos rfl]
    · have h' : a.kind ≠ 1 ∨ nmEq a.name nm = false := by
        by_cases h1 : a.kind = 1
        · right; cases h2 : nmEq a.name nm
          · rfl
          · exact absurd ⟨h1, h2⟩ h
        · exact .inl h1
      rw [idx_no nm a _ k h', idx_no nm a _ k h', hit_no nm a r h', ih (k + 1)]
      simp only [List.length_cons, show k + 1 + r.length = k + (r.length + 1) by omega]
/-- where the templates begin among the actions -/
structure Plc (s : ByteArray) (ts : List Tm) (A : List Ak) (β : Nat → Nat) : Prop where
  at' : ∀ t (ht : t < ts.length), ∃ pre B post nmE e, A = pre ++ ⟨1, ts[t].name, ts[t].at'⟩ :: (B ++ ⟨2, nmE, e⟩ :: post) ∧ pre.length = β t ∧ Flat s 0 ts[t].body (act s ts[t].at').next B e ∧ e ≤ s.size
  far : ∀ t, ts.length ≤ t → A.length ≤ β t
  inj : ∀ t1 t2, t1 < ts.length → t2 < ts.length → β t1 = β t2 → t1 = t2
  find : ∀ nm, 0 ≤ fndF nm ts 0 → hitB nm A = true ∧ idxA nm A 0 = β (tno ts nm)
theorem TFlat.places {s : ByteArray} {ts : List Tm} {A : List Ak} {p : Nat} (h : TFlat s ts A p) : ∃ β, Plc s ts A β := by
  induction h with
  | nil => exact ⟨fun t => t, ⟨fun t ht => absurd ht (by simp), fun t _ => by simp, fun t1 _ h1 => absurd h1 (by simp), fun nm h => by simp [fndF] at h⟩⟩
  | @snoc ts A B p e b h hl hk hb he ih =>
    obtain ⟨β, hβ⟩ := ih
    have hen := act_next s e (by omega)
    refine ⟨fun t => if t < ts.length then β t else if t = ts.length then A.length else A.length + B.length + 2 + t, ?_, ?_, ?_, ?_⟩
    · intro t ht
      by_cases h1 : t < ts.length
      · obtain ⟨pre, B', post, nmE, e', q1, q2, q3, q4⟩ := hβ.at' t h1
        have e1 : (ts ++ [(⟨(act s p).name, p, b⟩ : Tm)])[t] = ts[t] := List.getElem_append_left h1
        rw [e1]
        refine ⟨pre, B', post ++ ⟨1, (act s p).name, p⟩ :: (B ++ [⟨2, (act s e).name, e⟩]), nmE, e', ?_, ?_, q3, q4⟩
        · rw [q1]; simp
        · rw [if_pos h1]; exact q2
      · have h2 : t = ts.length := by simp at ht; omega
        subst h2
        have e1 : (ts ++ [(⟨(act s p).name, p, b⟩ : Tm)])[ts.length] = ⟨(act s p).name, p, b⟩ := by simp
        rw [e1]
        exact ⟨A, B, [], (act s e).name, e, rfl, by simp, hb, by omega⟩
    · intro t ht
      simp at ht
      rw [if_neg (by omega), if_neg (by omega)]
      simp; omega
    · have blt : ∀ t, t < ts.length → β t < A.length := fun t ht => by
        obtain ⟨pre, B', post, nmE, e', q1, q2, _⟩ := hβ.at' t ht
        rw [q1, ← q2]; simp
      intro t1 t2 h1 h2 he
      simp only [List.length_append, List.length_cons, List.length_nil] at h1 h2
      by_cases c1 : t1 < ts.length
      · by_cases c2 : t2 < ts.length
        · simp only [c1, c2, if_true] at he; exact hβ.inj t1 t2 c1 c2 he
        · have e2 : t2 = ts.length := by omega
          subst e2
          simp only [c1, if_true, Nat.lt_irrefl, if_false] at he
          have := blt t1 c1; omega
      · have e1 : t1 = ts.length := by omega
        subst e1
        by_cases c2 : t2 < ts.length
        · simp only [c2, if_true, Nat.lt_irrefl, if_false] at he
          have := blt t2 c2; omega
        · omega
    · intro nm hn
      have hX : names (⟨1, (act s p).name, p⟩ :: (B ++ [⟨2, (act s e).name, e⟩])) = [(act s p).name] := by
        have hB := (no_begin (B ++ [⟨2, (act s e).name, e⟩]) (by
          intro x hx
          rcases List.mem_append.1 hx with hx | hx
          · exact hb.kinds x hx
          · simp at hx; subst hx; simp)).1
        have : names (⟨1, (act s p).name, p⟩ :: (B ++ [⟨2, (act s e).name, e⟩])) = (act s p).name :: names (B ++ [⟨2, (act s e).name, e⟩]) := by simp [names]
        rw [this, hB]
      have hAh := h.has nm
      rw [fndF_app] at hn
      by_cases h0 : 0 ≤ fndF nm ts 0
      · obtain ⟨q1, q2⟩ := hβ.find nm h0
        have hfr := fndF_range nm ts 0
        have et : tno (ts ++ [(⟨(act s p).name, p, b⟩ : Tm)]) nm = tno ts nm := by unfold tno; rw [fndF_app, orE_pos _ _ h0]
        refine ⟨?_, ?_⟩
        · unfold hitB seenB at *; rw [names_append, List.any_append, q1]; rfl
        · rw [idxA_app, if_pos q1, et, if_pos (by unfold tno; omega)]; exact q2
      · rw [orE_neg _ _ h0] at hn
        have hA0 : hitB nm A = false := by
          have e1 : hitB nm A = hasF ts nm := hAh.symm
          rw [e1]; simp [hasF]; omega
        have hnm : nmEq (act s p).name nm = true := by
          cases hq : nmEq (act s p).name nm
          · simp [fndF, hq] at hn
          · rfl
        have et : tno (ts ++ [(⟨(act s p).name, p, b⟩ : Tm)]) nm = ts.length := by
          unfold tno; rw [fndF_app, orE_neg _ _ h0]; simp [fndF, hnm]
        refine ⟨?_, ?_⟩
        · unfold hitB seenB at *; rw [names_append, List.any_append, hX]; simp [hnm]
        · rw [idxA_app, if_neg (by rw [hA0]; decide), idx_yes nm _ _ _ rfl hnm, et, if_neg (by omega), if_pos rfl]; simp
theorem opt_one (n : Nat) : opt (n : Int) = one n := funext fun y => propext (opt_nat n y)
theorem tno_lt' (ts : List Tm) (nm : ByteArray) (h : 0 ≤ fndF nm ts 0) : tno ts nm < ts.length := by
  have := fndF_range nm ts 0
  unfold tno; omega
/-- a group is followed to its end -/
theorem follow_run {s : ByteArray} {A : List Ak} {ts : List Tm} {β : Nat → Nat} (hP : Plc s ts A β) (hw : ∀ i (hi : i < ts.length), WfN ts ts[i].body) (t : Nat) (ht : t < ts.length) (f : Nat) (hf : f < 24) (fs : FS) (hg : ∀ g ∈ fs.gs, -1 ≤ g.en ∧ g.en ≤ 23) :
    (runF s A (A.drop (β t + 1)) (β t + 1) ⟨f, []⟩ fs = none ∧ evt ts (enG β fs.gs) (bod ts t) (one f) .bad) ∨
    ∃ (x : Int) (fs' : FS), runF s A (A.drop (β t + 1)) (β t + 1) ⟨f, []⟩ fs = some (x, fs') ∧ (-1 ≤ x ∧ x ≤ 23) ∧ (∀ z, sem ts (enG β fs.gs) (bod ts t) (one f) z ↔ opt x z) ∧ ¬ evt ts (enG β fs.gs) (bod ts t) (one f) .bad ∧ Rcd A β (evt ts (enG β fs.gs) (bod ts t) (one f)) fs fs' := by
  obtain ⟨pre, B, post, nmE, e, hA, hpl, hfl, he⟩ := hP.at' t ht
  have hd : A.drop (β t + 1) = B ++ ⟨2, nmE, e⟩ :: post := by
    rw [hA, ← hpl]
    have : pre ++ (⟨1, ts[t].name, ts[t].at'⟩ : Ak) :: (B ++ ⟨2, nmE, e⟩ :: post) = (pre ++ [(⟨1, ts[t].name, ts[t].at'⟩ : Ak)]) ++ (B ++ ⟨2, nmE, e⟩ :: post) := by simp
    rw [this, List.drop_left' (by simp)]
  have hl : β t + 1 = (pre ++ [(⟨1, ts[t].name, ts[t].at'⟩ : Ak)]).length := by simp [hpl]
  have hx : (-1 : Int) ≤ (f : Int) ∧ (f : Int) ≤ 23 := by omega
  have o := (flat_run s A ts β (enG β fs.gs) hP.find hfl).next (c := ⟨1, ts[t].name, ts[t].at'⟩) pre post ⟨2, nmE, e⟩ f [] fs hA rfl he (hw t ht) (fun _ _ _ => Iff.rfl) hg hx
  rw [← bod_at t ht] at o
  rw [hd, hl]
  rcases o with ⟨o1, o2⟩ | ⟨y, fs', o1, o2, o3, o4, o5, o6⟩
  · exact .inl ⟨o1, by rw [opt_one] at o2; exact o2⟩
  · rw [opt_one] at o4 o5 o6
    refine .inr ⟨_, fs', ?_, rd_range y _, o4, o5, o6⟩
    rw [o1, runF_at s A (pre ++ [(⟨1, ts[t].name, ts[t].at'⟩ : Ak)] ++ B) post ⟨2, nmE, e⟩ (by rw [hA]; simp)]
    rw [if_neg (fun q => o3 q.1 q.2), if_pos rfl]
end Go.Proofs.YtffkejkgkgfnhabGreat
