import Derived.Test.YtffkejkgkgfnhaaGreatG03
import Derived.Test.YtffkejkgkgfnhaaGreatG02
import Derived.JoinedCond
namespace Go.Proofs.YtffkejkgkgfnhaaGreat
open Go.ChangeShapes Go.WideShapes Go.ChangeAt Go.RowKit Go.Deep
set_option linter.unusedVariables false
theorem mid_snoc_at (c : Int) (s : ByteArray) (k : Nat) (h : k < s.size) : mid c (s.data.toList.take (k + 1)) = mid c (s.data.toList.take k) ++ pc c s[k].toNat := by
  rw [take_snoc s k h, mid_snoc]
theorem esc_19 (l : List UInt8) : strOfNums [39] ++ strOfNums (mid 19 l) ++ strOfNums [39] = strOfNums (escL 19 l) := by
  rw [nums_append, nums_append]; simp [escL, acc, pre]
theorem esc_mid (c : Int) (l : List UInt8) (h : (c == 19) = false) : mid c l = escL c l := by
  have : c ≠ 19 := by simpa using h
  simp [escL, acc, pre, this]
set_option maxHeartbeats 400000 in
theorem c23no (c : Int) (s : ByteArray) (w : World) (h : opB c = false) :
    Calls Tryz.prog 16 #[.int .i64 c, .string s] w fun e w' => e = .returned (.tuple #[.string ⟨#[]⟩, .int .i64 10]) ∧ w' = w := by
  go_enter Tryz.func16, Tryz.ntmps16
  go_wp2_with (go_at_call 24; refine (c33 _ _).mono ?_; rintro e w' ⟨rfl, rfl⟩)
  go_ret2
  exact ⟨rfl, rfl⟩
set_option maxHeartbeats 1000000 in
theorem c23 (c : Int) (s : ByteArray) (w : World) (h : opB c = true) (hs : s.size ≤ 1048576) :
    Calls Tryz.prog 16 #[.int .i64 c, .string s] w fun e w' => e = .returned (.tuple #[.string (strOfNums (escL c s.data.toList)), .int .i64 0]) ∧ Below w.heap.size w w' := by
  go_enter Tryz.func16, Tryz.ntmps16
  go_wp2_with (go_at_call 24; refine (c33 _ _).mono ?_; rintro e w' ⟨rfl, hw⟩; obtain rfl := hw.symm)
  go_loopw [7, 8] (fun v i wr => ∃ k : Nat, k ≤ s.size ∧ i = .int .i64 k ∧ v = .string (strOfNums (mid c (s.data.toList.take k))) ∧ Below w.heap.size w wr) (fun _ i _ => s.size - (intOf i).toNat)
  case atStart => exact ⟨0, Nat.zero_le _, rfl, rfl, Below.refl _ _⟩
  case round =>
    obtain ⟨k, hk, rfl, rfl, hbel⟩ := hrel
    have Hsn := hide (mid_snoc_at c s k)
    have Hall : Hid (k = s.size → mid c (s.data.toList.take k) = mid c s.data.toList) := by
      intro e; rw [List.take_of_length_le (by simp [e])]
    generalize hA : mid c (s.data.toList.take k) = A at *
    have HA := hide hA
    have hl1 : (strOfNums A).size ≤ 6291456 := by
      have h1 := mid_len c (s.data.toList.take k)
      have h2 : (s.data.toList.take k).length ≤ k := List.length_take_le _ _
      rw [strOfNums_size, ← hA]; omega
    clear hA
    by_cases hlt : k < s.size
    · have hl2 : (strOfNums (pc c s[k].toNat)).size ≤ 6 := by
        rw [strOfNums_size]; exact (pc_ok c s[k].toNat ⟨byte_ge _, byte_le _⟩).2
      go_wp2_with fail
      refine (c34 _ _ _ (byte_ge _) (byte_le _) h).mono ?_
      rintro e w2 ⟨rfl, hb2⟩
      have hbel2 := hbel.trans (hb2.mono hbel.size)
      clear hbel hb2
      go_wp2
      go_roundw
      case rel => exact ⟨k + 1, by omega, by go_num, by rw [nums_append, Hsn.out hlt], hbel2⟩
      case measure => simp [intOf]; omega
    · have HA2 := Hall.out (by omega)
      subst HA2
      by_cases hc : c = 19
      · subst hc
        have Hf := hide (esc_19 s.data.toList)
        have hl := lit39
        have hl3 : (strOfNums [39]).size ≤ 1 := by decide
        go_wp2
        go_ret2
        refine ⟨?_, hbel⟩
        rw [← Hf.out]
        rfl
      · have hc' : (c == 19) = false := by simpa using hc
        have Hf := hide (esc_mid c s.data.toList hc')
        clear hc
        go_wp2
        go_ret2
        refine ⟨?_, hbel⟩
        rw [← Hf.out]
        rfl
set_option maxHeartbeats 400000 in
theorem c14esc (p : Value) (n : Int) (s t : ByteArray) (d : Value) (w : World) (hs : s.size ≤ 1048576) :
    Calls Tryz.prog 9 #[p, .agg #[.int .i64 3, .int .i64 n, .string s, .string t, d]] w fun e w' => e = .returned (.bool true) ∧ Below w.heap.size w w' := by
  cases ho : opB n
  · go_enter Tryz.func9, Tryz.ntmps9
    go_wp2_with (first | (go_at_call 15; refine (c11no _ _ _ ho).mono ?_; rintro e w' ⟨rfl, rfl⟩) | (go_at_call 16; refine (c23no _ _ _ ho).mono ?_; rintro e w' ⟨rfl, rfl⟩))
    go_ret
    exact ⟨rfl, (Below.refl _ _).alloc (Nat.le_refl _) _⟩
  · go_enter Tryz.func9, Tryz.ntmps9
    go_wp2_with fail
    refine (c11 _ _ _ ho hs).mono ?_
    rintro e w1 ⟨rfl, hb1⟩
    have hz : w.heap.size < w1.heap.size := by have := hb1.size; simp at this; omega
    have k0 : ∀ o, o < 5 → w1.cell? ⟨w.heap.size, o, none⟩ = (w.alloc (.cells #[.int .i64 3, .int .i64 n, .string s, .string t, d] 33)).cell? ⟨w.heap.size, o, none⟩ := fun o _ => hb1.cell (p := ⟨w.heap.size, o, none⟩) (by show w.heap.size < _; simp)
    have k1 : w1.cell? ⟨w.heap.size, 1, none⟩ = some (.int .i64 n) := (k0 1 (by omega)).trans (by simp)
    have k2 : w1.cell? ⟨w.heap.size, 2, none⟩ = some (.string s) := (k0 2 (by omega)).trans (by simp)
    clear k0
    have hb1' : Below w.heap.size w w1 := ((Below.refl _ _).alloc (Nat.le_refl _) _).trans (hb1.mono (by simp))
    clear hb1
    go_wp2_with fail
    refine (c23 _ _ _ ho hs).mono ?_
    rintro e w2 ⟨rfl, hb2⟩
    have hb2' : Below w.heap.size w w2 := hb1'.trans (hb2.mono (by omega))
    clear hb2 k1 k2
    go_wp2
    go_ret
    exact ⟨ret_bool (by simp), hb2'⟩
set_option maxHeartbeats 400000 in
theorem walk6 (a : Option Addr) (len cap : Nat) (w : World) (hlen : len ≤ maxLen) (h : IsOps w a len (fun _ s _ => s.size ≤ 1048576)) :
    Calls Tryz.prog 5 #[.slice a len cap] w fun e w' => e = .returned (.bool true) ∧ Below w.heap.size w w' := by
  have H := hide h
  clear h
  go_enter Tryz.func5, Tryz.ntmps5
  go_wp2_with fail
  refine (c9ops 3 (fun _ s _ => s.size ≤ 1048576) (fun p n s t d w hs => c14esc p n s t d w hs) w a len cap hlen H.out).mono ?_
  rintro e w' ⟨rfl, hb⟩
  go_wp2
  go_ret
  exact ⟨rfl, hb⟩
theorem own6 : ownKnob Tryz.prog.godebug = none := by kernel_rfl
theorem laid6 : laidOutB Tryz.prog = true := by kernel_rfl
theorem bulk_one {H : Type} (d : DataW H) : 1 ≤ Rows.uptoBulk d := by
  cases d with
  | lit l => cases l <;> simp [Rows.uptoBulk]
  | nil => simp [Rows.uptoBulk]
  | ptr d => simp [Rows.uptoBulk]
  | slice elems spare => simp [Rows.uptoBulk]
  | agg parts => simp [Rows.uptoBulk]
  | iface t d => simp [Rows.uptoBulk]
  | map entries => simp [Rows.uptoBulk]
  | held h => simp [Rows.uptoBulk]
theorem bulk_part {H : Type} {d : DataW H} {l : List (DataW H)} (h : d ∈ l) : Rows.uptoBulk d ≤ Rows.uptoBulkAll l := by
  induction l with
  | nil => cases h
  | cons x r ih =>
    simp only [Rows.uptoBulkAll]
    cases List.mem_cons.1 h with
    | inl e => subst e; omega
    | inr e => have := ih e; omega
theorem small_op {H : Type} (x : DataW H) (hk : Rows.uptoSmall H [x] = true) (k n : Int) (s t : List UInt8) (dd : DataW H) (elems spare : List (DataW H)) (hx : x = .slice elems spare)
    (hm : (.agg [.lit (.int .i64 k), .lit (.int .i64 n), .lit (.string s), .lit (.string t), dd]) ∈ elems) : s.length ≤ 1048576 ∧ t.length ≤ 1048576 := by
  have h := of_decide_eq_true hk
  have h2 := bulk_part hm
  subst hx
  simp only [Rows.uptoBulkAll, Rows.uptoBulk] at h h2
  omega
set_option maxRecDepth 100000 in
theorem lifted6 (os : Os) (started : os.Started) (H : Type) (enc : TypeId × Value → H) (F : Stop.Interp) :
    ReturnsInHanded {} Tryz.checked os 5 .any ((Rows.OpenSpec.upto Rows.escapesSpec).pre6 enc Tryz.prog Tryz.f5 Rows.escapesUptoRow.domain false) (((Rows.OpenSpec.upto Rows.escapesSpec).at F).post enc Tryz.prog Tryz.f5 false true false false) := by
  refine returnsInHanded_of_cond (C := Tryz.checked) (s := Rows.OpenSpec.upto Rows.escapesSpec) (k := Rows.uptoSmall) rfl own6 started (by kernel_rfl) Tryz.func5
    (OpenSpec.witness (enc := enc) (C := Tryz.checked) (s := Rows.OpenSpec.upto Rows.escapesSpec) (k := Rows.uptoSmall) rfl false ⟨#[], #[.slice none 0 0], []⟩ 8 (by kernel_rfl) (by kernel_rfl) (by kernel_rfl)
      (x := ([.nil], [], [])) (by kernel_rfl) rfl (by kernel_rfl)) ?_
  intro W base args ds gs before hval0 hW _ hk _
  have hval : ∀ (j : Nat) t v, Tryz.f5.params[j]? = some t → args[j]? = some v → Value.okWide Tryz.prog W .any base t v := hval0
  have hW' := hW
  obtain ⟨p, q, hA0, hV, rfl, hfz, hnd⟩ := hW
  have hA : DataW.TrodAll enc Tryz.prog W 0 (fun _ => true) true Tryz.f5.params.toList args.toList ds p := hA0
  rw [Tryz.params5] at hA hval
  obtain ⟨v0, vs0, d0, ds0, p0, q0, hargs, rfl, rfl, h0, r0⟩ := trodAll_cons hA
  obtain ⟨rfl, rfl, rfl⟩ := trodAll_nil r0
  obtain rfl : args = #[v0] := by cases args; simp_all
  obtain ⟨rfl, rfl⟩ := trodVars_none hV
  obtain ⟨a0, len0, cap0, rfl⟩ := okWide_slice Tryz.underlying22 (hval 0 22 v0 rfl rfl)
  have k0 := h0
  have lt0 : ∀ x ∈ p0, x.block < W.heap.size := by obtain ⟨m, hm⟩ := k0; exact DataW.trod_lt m _ _ _ hm
  obtain ⟨hlen, hops⟩ : len0 ≤ maxLen ∧ IsOps W a0 len0 (fun _ s _ => s.size ≤ 1048576) := by
    obtain ⟨fuel, hf⟩ := h0
    obtain ⟨h1, h2⟩ := open_ops hf
    refine ⟨h1, h2.mono fun n s t h => ?_⟩
    obtain ⟨_, _, k, dd, elems, spare, hx, hm⟩ := h
    exact (small_op d0 hk k n _ _ dd elems spare hx hm).1
  clear hA0 hval0
  refine (walk6 a0 len0 cap0 W hlen hops).mono fun e W' ⟨he, bel⟩ => ?_
  subst he
  exact ⟨_, rfl, _, _, _, [], _, [], hW', trodAll_mk1 (shut_bool Tryz.underlying4 _), (trodAll_cons_mk (Below.trod laid6 (by kernel_rfl) (of_decide_eq_true (by kernel_rfl)) k0 bel lt0) trodAll_mk0), rfl, bel.frame _, fun h => by cases h⟩

theorem over6 : Rows.escapesUptoRow.holds Tryz.pinned (Rows.OpenSpec.upto Rows.escapesSpec) :=
  OpenClaim.holds_of_cond 5 Tryz.f5 rfl rfl rfl rfl rfl rfl rfl ⟨rfl, rfl, rfl, rfl, rfl⟩ rfl rfl rfl rfl rfl (by kernel_rfl) Tryz.func5 (by kernel_rfl)
    (of_decide_eq_true (by kernel_rfl)) (by unfold Func.isWrapper; first | (rw [if_pos (by decide +kernel)]; kernel_rfl) | (rw [if_neg (by decide +kernel)]; exact ⟨rfl, rfl⟩))
    (fun os started H enc _ F => lifted6 os started H enc F)

theorem escapes_proved : Rows.EscapesUptoSaid := over6
#print axioms escapes_proved
end Go.Proofs.YtffkejkgkgfnhaaGreat
