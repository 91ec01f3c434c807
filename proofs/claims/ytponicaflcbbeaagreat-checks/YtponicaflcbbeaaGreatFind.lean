import Derived.Test.YtponicaflcbbeaaGreatTmpl
namespace Go.Proofs.YtponicaflcbbeaaGreat
open Go.RowKit
set_option linter.unusedVariables false
/-! ### Reading the rows -/
theorem cell_of_heap {w : World} {g j : Nat} {cur : Array Value} {ty : Nat} (h : w.heap[g]? = some (.cells cur ty (0, 0))) : w.cell? ⟨g, j, none⟩ = cur[j]? := by
  simp [World.cell?, h]
theorem RowT.at {w : World} {A : Nat → Prop} : ∀ (ts : List Tm) (xs : List Value) (i : Nat) (hi : i < ts.length), RowT w A ts xs →
    ∃ (a : Option Addr) (n c : Nat), xs[i * 3]? = some (.string ts[i].name) ∧ xs[i * 3 + 1]? = some (.int .i64 ts[i].at') ∧ xs[i * 3 + 2]? = some (.slice a n c) ∧ Slc w A 102 (.slice a n c) ts[i].body
  | [], xs, i, hi, h => absurd hi (by simp)
  | t :: r, xs, 0, hi, h => by
    obtain ⟨a, n, c, ys, rfl, h2, h3⟩ := h
    exact ⟨a, n, c, rfl, rfl, rfl, h2⟩
  | t :: r, xs, i + 1, hi, h => by
    obtain ⟨a, n, c, ys, rfl, h2, h3⟩ := h
    have hi' : i < r.length := by simpa using hi
    obtain ⟨a', n', c', k1, k2, k3, k4⟩ := RowT.at r ys i hi' h3
    refine ⟨a', n', c', ?_, ?_, ?_, k4⟩
    · rw [List.getElem?_append_right (by simp; omega)]; simpa [show (i + 1) * 3 - 3 = i * 3 by omega] using k1
    · rw [List.getElem?_append_right (by simp; omega)]; simpa [show (i + 1) * 3 + 1 - 3 = i * 3 + 1 by omega] using k2
    · rw [List.getElem?_append_right (by simp; omega)]; simpa [show (i + 1) * 3 + 2 - 3 = i * 3 + 2 by omega] using k3
/-- the templates, as the walk reads them -/
def TmAt (w : World) (A : Nat → Prop) (a : Option Addr) (ts : List Tm) : Prop :=
  ts.length = 0 ∨ ∃ g, a = some ⟨g, 0, none⟩ ∧ ∀ (i : Nat) (hi : i < ts.length), w.cell? ⟨g, i * 3, none⟩ = some (.string ts[i].name) ∧ w.cell? ⟨g, i * 3 + 1, none⟩ = some (.int .i64 ts[i].at') ∧
    ∃ (ba : Option Addr) (bn bc : Nat), w.cell? ⟨g, i * 3 + 2, none⟩ = some (.slice ba bn bc) ∧ Slc w A 102 (.slice ba bn bc) ts[i].body
theorem tmAt {w : World} {A : Nat → Prop} {a : Option Addr} {c : Nat} {ts : List Tm} (h : SlcX w A 72 3 (.slice a ts.length c) ts.length (RowT w A ts)) : TmAt w A a ts := by
  rcases h with ⟨_, h0, _⟩ | ⟨g, cap, cur, hv, hA, hg, hn, hm, hs, hr⟩
  · exact .inl h0
  · right
    simp at hv
    refine ⟨g, hv.1, fun i hi => ?_⟩
    obtain ⟨ba, bn, bc, k1, k2, k3, k4⟩ := RowT.at ts _ i hi hr
    have tk : ∀ j, j < ts.length * 3 → (cur.toList.take (ts.length * 3))[j]? = cur[j]? := by
      intro j hj; rw [List.getElem?_take_of_lt hj]; simp
    rw [tk _ (by omega)] at k1 k2 k3
    refine ⟨by rw [cell_of_heap hg]; exact k1, by rw [cell_of_heap hg]; exact k2, ba, bn, bc, by rw [cell_of_heap hg]; exact k3, k4⟩
def nmEq (a b : ByteArray) : Bool := a.toList == b.toList
def fndF (nm : ByteArray) : List Tm → Nat → Int
  | [], _ => -1
  | t :: r, i => if nmEq t.name nm then i else fndF nm r (i + 1)
theorem fndF_at (nm : ByteArray) (ts : List Tm) (i : Nat) (hi : i < ts.length) : fndF nm (ts.drop i) i = if nmEq ts[i].name nm then (i : Int) else fndF nm (ts.drop (i + 1)) (i + 1) := by
  rw [List.drop_eq_getElem_cons hi]; rfl
theorem fndF_range (nm : ByteArray) (ts : List Tm) (i : Nat) : -1 ≤ fndF nm ts i ∧ fndF nm ts i < i + ts.length := by
  induction ts generalizing i with
  | nil => simp [fndF]; omega
  | cons t r ih =>
    simp only [fndF]
    split
    · simp; omega
    · have := ih (i + 1); simp; omega
set_option maxHeartbeats 2000000 in
theorem c60 (w : World) (A : Nat → Prop) (a : Option Addr) (c : Nat) (ts : List Tm) (nm : ByteArray) (hl : ts.length ≤ 6) (h : TmAt w A a ts) :
    Calls Tryz.prog 35 #[.slice a ts.length c, .string nm] w fun e w' => e = .returned (.int .i64 (fndF nm ts 0)) ∧ w' = w := by
  rcases h with h0 | ⟨g, rfl, hat⟩
  · have hn : ts = [] := List.length_eq_zero_iff.1 h0
    subst hn
    have HE : Hid (fndF nm [] 0 = -1) := rfl
    generalize fndF nm [] 0 = E at *
    go_enter Tryz.func35, Tryz.ntmps35
    go_wp2
    refine wp_loop_rounds 1 ?_
    rw [rounds_succ]
    go_wp2
    go_ret
    exact ⟨retS_int HE.out.symm, rfl⟩
  · have HAT := hidS hat
    clear hat
    go_enter Tryz.func35, Tryz.ntmps35
    go_wp2
    go_loop [5] (fun i => ∃ k : Nat, k ≤ ts.length ∧ i = .int .i64 k ∧ Hid (fndF nm ts 0 = fndF nm (ts.drop k) k)) (fun i => ts.length - (intOf i).toNat)
    case atStart => exact ⟨0, Nat.zero_le _, rfl, rfl⟩
    case round =>
      obtain ⟨k, hk, rfl, H⟩ := hrel
      by_cases hlt : k < ts.length
      · have k1 := (HAT.out k hlt).1
        have HS := hidS (fndF_at nm ts k hlt)
        cases hB : nmEq ts[k].name nm
        · have HF : Hid (fndF nm ts 0 = fndF nm (ts.drop (k + 1)) (k + 1)) := by
            show _ = _
            rw [H.out, HS.out, hB]; rfl
          unfold nmEq at hB
          clear H HS
          go_wp2
          go_round
          case rel => exact ⟨k + 1, by omega, by go_num, HF.out⟩
          case measure => simp [intOf]; omega
        · have HF : Hid (fndF nm ts 0 = k) := by
            show _ = _
            rw [H.out, HS.out, hB]; rfl
          unfold nmEq at hB
          clear H HS
          go_wp2
          go_ret
          exact ⟨retS_int HF.out.symm, rfl⟩
      · have HF : Hid (fndF nm ts 0 = -1) := by
          show _ = _
          rw [H.out, List.drop_eq_nil_of_le (by omega)]; rfl
        go_wp2
        go_ret
        exact ⟨retS_int HF.out.symm, rfl⟩
end Go.Proofs.YtponicaflcbbeaaGreat
