import Derived.Test.YtffkejkgkgfnhaaG03
namespace Go.Proofs.Ytffkejkgkgfnhaa
open Go.RowKit
set_option linter.unusedVariables false
set_option maxRecDepth 100000 in
set_option maxHeartbeats 2000000 in
theorem c13text (c : Int) (hc : c = 0 ∨ c = 15 ∨ c = 16) (l : List UInt8) (T : ByteArray) (w : World) (hl : l.length ≤ 1048576) (hT : T.data.toList = bts (mid c l)) :
    Calls Try.prog 13 #[.int .i64 c, .string T] w fun e w' => e = .returned (.tuple #[.string ⟨l.toArray⟩, .bool true]) ∧ Below w.heap.size w w' := by
  have hsz : T.size ≤ 6291456 := by
    have h1 := mid_len c l
    have h2 := congrArg List.length hT
    rw [bts_len] at h2
    have e : T.data.toList.length = T.size := rfl
    omega
  have k1 := cv1
  have HT := hide hT
  have HC := hide hc
  clear hT hc
  have e17 : (c == 17) = false := by have := HC.out; simp; omega
  have e18 : (c == 18) = false := by have := HC.out; simp; omega
  have e19 : (c == 19) = false := by have := HC.out; simp; omega
  have e21 : (c == 21) = false := by have := HC.out; simp; omega
  go_enter Try.func13, Try.ntmps13
  go_wp2
  go_loopw [6, 9, 10, 11, 12, 13] (fun o i _ _ _ _ wr => ∃ j p : Nat, j ≤ l.length ∧ Hid (p = (mid c (l.take j)).length) ∧ i = .int .i64 p ∧ o = .string ⟨(l.take j).toArray⟩ ∧ Below w.heap.size w wr) (fun _ i _ _ _ _ _ => T.size - (intOf i).toNat)
  case atStart => exact ⟨0, 0, Nat.zero_le _, rfl, rfl, rfl, Below.refl _ _⟩
  case round =>
    obtain ⟨j, p, hj, Hp, rfl, rfl, hbel⟩ := hrel
    by_cases hlt : j < l.length
    · have hv := view c l T HT.out j hlt
      rw [← Hp.out] at hv
      have hpc := pc_posR c l[j].toNat
      have hps := size_drop T p _ _ (by rw [bts_len]; exact hpc) hv
      rw [bts_len] at hps
      have hnx : Hid (p + (pc c l[j].toNat).length = (mid c (l.take (j + 1))).length) := by
        show _ = _
        rw [mid_take c l j hlt, List.length_append, ← Hp.out]
      have hp : p < T.size := by omega
      have hol : (⟨(l.take j).toArray⟩ : ByteArray).size ≤ 1048576 := by
        have : (⟨(l.take j).toArray⟩ : ByteArray).size = (l.take j).length := by simp [ByteArray.size]
        have h2 : (l.take j).length ≤ l.length := List.length_take_le' _ _
        omega
      rcases text_ways c l[j].toNat HC.out T p _ hv with ⟨q1, q2⟩ | ⟨q1, q2⟩
      · rw [q1] at hv hnx
        obtain ⟨hk, hi⟩ := idx_drop T p 0 l[j] (by rw [hv]; simp [bts])
        have hb : (((T[p]'hp).toNat : Int) != 38) = true := by
          have : T[p]'hp = l[j] := hi
          rw [this]; simpa using q2
        have hx : T.extract p (p + 1) = ⟨#[l[j]]⟩ := by
          apply ByteArray.ext
          apply Array.ext'
          rw [Lib.extract_data, hv]
          simp [bts]
        have HO := hide (out_step l j hlt)
        have hxs : (⟨#[l[j]]⟩ : ByteArray).size ≤ 1 := by simp [ByteArray.size]
        have Hx := hide hnx
        clear hv hpc hps hnx q1 q2 hi hk
        go_wp2
        exact ⟨⟨j + 1, p + 1, by omega, Hx.out, by go_num, by rw [HO.out], hbel⟩, by simp [intOf]; omega⟩
      · obtain ⟨hk, hi⟩ := idx_drop T p 0 38 (by
          rw [hv]
          cases hq : pc c l[j].toNat with
          | nil => rw [hq] at q1; simp at q1
          | cons x r => rw [hq] at q1; simp at q1; subst q1; simp [bts])
        have hb : (((T[p]'hp).toNat : Int) != 38) = false := by
          have : T[p]'hp = 38 := hi
          rw [this]; decide
        have HO := hide (out_step l j hlt)
        have Hc := hide (c18 T p wr hp (by omega))
        have Hc2 : Hid (Calls Try.prog 28 #[.string T, .int .i64 p] wr fun e w' => e = .returned (.tuple #[.int .u8 (l[j].toNat : Int), .int .i64 ((pc c l[j].toNat).length : Int)]) ∧ Below wr.heap.size wr w') := by
          have := Hc.out
          rw [q2] at this
          exact this
        clear Hc q1 q2 hi hk hv
        generalize (pc c l[j].toNat).length = n at *
        have Hx := hide hnx
        clear hnx
        have hn0 : ((n : Int) == 0) = false := by simp; omega
        have hn1 : 1 ≤ n := by omega
        have hxs : (strOfNums [(l[j].toNat : Int)]).size ≤ 1 := by rw [strOfNums_size]; simp
        clear hpc
        go_wp2_with fail
        refine Hc2.out.mono ?_
        rintro e w2 ⟨rfl, hb2⟩
        have hbel2 := hbel.trans (hb2.mono hbel.size)
        clear hbel hb2 Hc2
        have hbs := hbel2.size
        go_wp2
        exact ⟨⟨j + 1, p + n, by omega, Hx.out, by go_num, by rw [nums_one, HO.out], hbel2.alloc hbs _⟩, by simp [intOf]; omega⟩
    · have hpT : ¬ p < T.size := by
        have h1 := congrArg List.length HT.out
        rw [bts_len] at h1
        have h2 := Hp.out
        rw [List.take_of_length_le (by omega)] at h2
        have e : T.data.toList.length = T.size := rfl
        omega
      have HL : Hid (l.take j = l) := List.take_of_length_le (by omega)
      clear hlt
      go_wp2
      go_ret2
      refine ⟨?_, hbel⟩
      rw [HL.out]
      rfl
theorem hx_dgv (t n : Int) (h0 : 0 ≤ n) (h1 : n ≤ 15) (ht : t = 65 ∨ t = 97) : dgv ((UInt8.ofNat (hx t n).toNat).toNat : Int) = n := by
  have h := hx_ok t n h0 h1 ht
  have e : ((UInt8.ofNat (hx t n).toNat).toNat : Int) = hx t n := by
    obtain ⟨g0, g1⟩ := h
    rw [UInt8.toNat_ofNat']; omega
  rw [e]
  rcases ht with rfl | rfl <;> unfold hx dgv <;> (repeat' split) <;> omega
theorem link_ways (c b : Int) (hc : c = 17 ∨ c = 18) : (pc c b = [b] ∧ b ≠ 37) ∨ pc c b = [37, hx 65 (b / 16), hx 65 (b % 16)] := by
  have e : pc c b = pL b := by rcases hc with rfl | rfl <;> simp [pc]
  rw [e]; unfold pL
  by_cases h : sfL b = true
  · left; rw [if_pos h]; refine ⟨rfl, ?_⟩; rintro rfl; revert h; decide
  · right; rw [if_neg h]
theorem quote_ways (c b : Int) (hc : c = 19 ∨ c = 21) : (pc c b = [b] ∧ b ≠ 92) ∨ pc c b = [92, 120, hx 97 (b / 16), hx 97 (b % 16)] := by
  have e : pc c b = pQ b := by rcases hc with rfl | rfl <;> simp [pc]
  rw [e]; unfold pQ
  by_cases h : sfQ b = true
  · left; rw [if_pos h]; refine ⟨rfl, ?_⟩; rintro rfl; revert h; decide
  · right; rw [if_neg h]
theorem byte_two (b : Int) : b / 16 * 16 + b % 16 = b := by omega
set_option maxRecDepth 100000 in
set_option maxHeartbeats 2000000 in
theorem c13link (c : Int) (hc : c = 17 ∨ c = 18) (l : List UInt8) (T : ByteArray) (w : World) (hl : l.length ≤ 1048576) (hT : T.data.toList = bts (mid c l)) :
    Calls Try.prog 13 #[.int .i64 c, .string T] w fun e w' => e = .returned (.tuple #[.string ⟨l.toArray⟩, .bool true]) ∧ Below w.heap.size w w' := by
  have hsz : T.size ≤ 6291456 := by
    have h1 := mid_len c l
    have h2 := congrArg List.length hT
    rw [bts_len] at h2
    have e : T.data.toList.length = T.size := rfl
    omega
  have k1 := cv1
  have HT := hide hT
  have HC := hide hc
  clear hT hc
  have key : c = 17 ∨ c = 18 := HC.out
  rcases key with key | key
  · have e17 : (c == 17) = true := by simp [key]
    clear key
    go_enter Try.func13, Try.ntmps13
    go_wp2
    go_loopw [6, 9, 10, 11, 12, 13] (fun o i _ _ _ _ wr => ∃ j p : Nat, j ≤ l.length ∧ Hid (p = (mid c (l.take j)).length) ∧ i = .int .i64 p ∧ o = .string ⟨(l.take j).toArray⟩ ∧ Below w.heap.size w wr) (fun _ i _ _ _ _ _ => T.size - (intOf i).toNat)
    case atStart => exact ⟨0, 0, Nat.zero_le _, rfl, rfl, rfl, Below.refl _ _⟩
    case round =>
      obtain ⟨j, p, hj, Hp, rfl, rfl, hbel⟩ := hrel
      by_cases hlt : j < l.length
      · have hv := view c l T HT.out j hlt
        rw [← Hp.out] at hv
        have hpc := pc_posR c l[j].toNat
        have hps := size_drop T p _ _ (by rw [bts_len]; exact hpc) hv
        rw [bts_len] at hps
        have hnx : Hid (p + (pc c l[j].toNat).length = (mid c (l.take (j + 1))).length) := by
          show _ = _
          rw [mid_take c l j hlt, List.length_append, ← Hp.out]
        have hp : p < T.size := by omega
        have hol : (⟨(l.take j).toArray⟩ : ByteArray).size ≤ 1048576 := by
          have : (⟨(l.take j).toArray⟩ : ByteArray).size = (l.take j).length := by simp [ByteArray.size]
          have h2 : (l.take j).length ≤ l.length := List.length_take_le' _ _
          omega
        rcases link_ways c l[j].toNat HC.out with ⟨q1, q2⟩ | q1
        · rw [q1] at hv hnx
          obtain ⟨hk, hi⟩ := idx_drop T p 0 l[j] (by rw [hv]; simp [bts])
          have hb : (((T[p]'hp).toNat : Int) != 37) = true := by
            have : T[p]'hp = l[j] := hi
            rw [this]; simpa using q2
          have hx : T.extract p (p + 1) = ⟨#[l[j]]⟩ := by
            apply ByteArray.ext
            apply Array.ext'
            rw [Lib.extract_data, hv]
            simp [bts]
          have HO := hide (out_step l j hlt)
          have hxs : (⟨#[l[j]]⟩ : ByteArray).size ≤ 1 := by simp [ByteArray.size]
          have Hx := hide hnx
          clear hv hpc hps hnx q1 q2 hi hk
          go_wp2
          exact ⟨⟨j + 1, p + 1, by omega, Hx.out, by go_num, by rw [HO.out], hbel⟩, by simp [intOf]; omega⟩
        · rw [q1] at hv hnx hps
          obtain ⟨hk, hi⟩ := idx_drop T p 0 37 (by rw [hv]; simp [bts])
          obtain ⟨hka, hia⟩ := idx_drop T p 1 (UInt8.ofNat (hx 65 ((l[j].toNat : Int) / 16)).toNat) (by rw [hv]; simp [bts])
          obtain ⟨hkb, hib⟩ := idx_drop T p (1 + 1) (UInt8.ofNat (hx 65 ((l[j].toNat : Int) % 16)).toNat) (by rw [hv]; simp [bts])
          have hb : (((T[p]'hp).toNat : Int) != 37) = false := by
            have : T[p]'hp = 37 := hi
            rw [this]; decide
          have hbl := byte_le l[j]
          have hbg := byte_ge l[j]
          have Hn := hide (fun wx => c19 T ((p : Int) + 1) (p + 1) ((l[j].toNat : Int) / 16) ((l[j].toNat : Int) % 16) wx (by omega) (by omega) (by omega)
            (by show dgv _ = _; rw [hia]; exact hx_dgv 65 _ (by omega) (by omega) (by decide)) (by show dgv _ = _; have := hib; simp only [← Nat.add_assoc] at this; rw [this]; exact hx_dgv 65 _ (by omega) (by omega) (by decide)) (by omega) (by omega) (by omega) (by omega))
          simp only [byte_two] at Hn
          have HO := hide (out_step l j hlt)
          have Hc := hide (c18 T p wr hp (by omega))
          have hps2 : p + 3 ≤ T.size := by simpa using hps
          have Hx : Hid (p + 3 = (mid c (l.take (j + 1))).length) := hnx.out
          have hxs : (strOfNums [(l[j].toNat : Int)]).size ≤ 1 := by rw [strOfNums_size]; simp
          clear q1 hi hk hv hnx hps hpc hka hkb hia hib hbl hbg
          generalize enF0 T p = E at *
          go_wp2_with fail
          refine Hc.out.mono ?_
          rintro e w2 ⟨rfl, hb2⟩
          have hbel2 := hbel.trans (hb2.mono hbel.size)
          clear hbel hb2 Hc
          have hbs := hbel2.size
          go_wp2_with fail
          refine (Hn.out _).mono ?_
          rintro e w3 ⟨rfl, hw3⟩
          obtain rfl := hw3.symm
          clear Hn
          go_wp2
          exact ⟨⟨j + 1, p + 3, by omega, Hx.out, by go_num, by rw [nums_one, HO.out], hbel2.alloc hbs _⟩, by simp [intOf]; omega⟩
      · have hpT : ¬ p < T.size := by
          have h1 := congrArg List.length HT.out
          rw [bts_len] at h1
          have h2 := Hp.out
          rw [List.take_of_length_le (by omega)] at h2
          have e : T.data.toList.length = T.size := rfl
          omega
        have HL : Hid (l.take j = l) := List.take_of_length_le (by omega)
        clear hlt
        go_wp2
        go_ret2
        refine ⟨?_, hbel⟩
        rw [HL.out]
        rfl
  · have e17 : (c == 17) = false := by simp [key]
    have e18 : (c == 18) = true := by simp [key]
    clear key
    go_enter Try.func13, Try.ntmps13
    go_wp2
    go_loopw [6, 9, 10, 11, 12, 13] (fun o i _ _ _ _ wr => ∃ j p : Nat, j ≤ l.length ∧ Hid (p = (mid c (l.take j)).length) ∧ i = .int .i64 p ∧ o = .string ⟨(l.take j).toArray⟩ ∧ Below w.heap.size w wr) (fun _ i _ _ _ _ _ => T.size - (intOf i).toNat)
    case atStart => exact ⟨0, 0, Nat.zero_le _, rfl, rfl, rfl, Below.refl _ _⟩
    case round =>
      obtain ⟨j, p, hj, Hp, rfl, rfl, hbel⟩ := hrel
      by_cases hlt : j < l.length
      · have hv := view c l T HT.out j hlt
        rw [← Hp.out] at hv
        have hpc := pc_posR c l[j].toNat
        have hps := size_drop T p _ _ (by rw [bts_len]; exact hpc) hv
        rw [bts_len] at hps
        have hnx : Hid (p + (pc c l[j].toNat).length = (mid c (l.take (j + 1))).length) := by
          show _ = _
          rw [mid_take c l j hlt, List.length_append, ← Hp.out]
        have hp : p < T.size := by omega
        have hol : (⟨(l.take j).toArray⟩ : ByteArray).size ≤ 1048576 := by
          have : (⟨(l.take j).toArray⟩ : ByteArray).size = (l.take j).length := by simp [ByteArray.size]
          have h2 : (l.take j).length ≤ l.length := List.length_take_le' _ _
          omega
        rcases link_ways c l[j].toNat HC.out with ⟨q1, q2⟩ | q1
        · rw [q1] at hv hnx
          obtain ⟨hk, hi⟩ := idx_drop T p 0 l[j] (by rw [hv]; simp [bts])
          have hb : (((T[p]'hp).toNat : Int) != 37) = true := by
            have : T[p]'hp = l[j] := hi
            rw [this]; simpa using q2
          have hx : T.extract p (p + 1) = ⟨#[l[j]]⟩ := by
            apply ByteArray.ext
            apply Array.ext'
            rw [Lib.extract_data, hv]
            simp [bts]
          have HO := hide (out_step l j hlt)
          have hxs : (⟨#[l[j]]⟩ : ByteArray).size ≤ 1 := by simp [ByteArray.size]
          have Hx := hide hnx
          clear hv hpc hps hnx q1 q2 hi hk
          go_wp2
          exact ⟨⟨j + 1, p + 1, by omega, Hx.out, by go_num, by rw [HO.out], hbel⟩, by simp [intOf]; omega⟩
        · rw [q1] at hv hnx hps
          obtain ⟨hk, hi⟩ := idx_drop T p 0 37 (by rw [hv]; simp [bts])
          obtain ⟨hka, hia⟩ := idx_drop T p 1 (UInt8.ofNat (hx 65 ((l[j].toNat : Int) / 16)).toNat) (by rw [hv]; simp [bts])
          obtain ⟨hkb, hib⟩ := idx_drop T p (1 + 1) (UInt8.ofNat (hx 65 ((l[j].toNat : Int) % 16)).toNat) (by rw [hv]; simp [bts])
          have hb : (((T[p]'hp).toNat : Int) != 37) = false := by
            have : T[p]'hp = 37 := hi
            rw [this]; decide
          have hbl := byte_le l[j]
          have hbg := byte_ge l[j]
          have Hn := hide (fun wx => c19 T ((p : Int) + 1) (p + 1) ((l[j].toNat : Int) / 16) ((l[j].toNat : Int) % 16) wx (by omega) (by omega) (by omega)
            (by show dgv _ = _; rw [hia]; exact hx_dgv 65 _ (by omega) (by omega) (by decide)) (by show dgv _ = _; have := hib; simp only [← Nat.add_assoc] at this; rw [this]; exact hx_dgv 65 _ (by omega) (by omega) (by decide)) (by omega) (by omega) (by omega) (by omega))
          simp only [byte_two] at Hn
          have HO := hide (out_step l j hlt)
          have Hc := hide (c18 T p wr hp (by omega))
          have hps2 : p + 3 ≤ T.size := by simpa using hps
          have Hx : Hid (p + 3 = (mid c (l.take (j + 1))).length) := hnx.out
          have hxs : (strOfNums [(l[j].toNat : Int)]).size ≤ 1 := by rw [strOfNums_size]; simp
          clear q1 hi hk hv hnx hps hpc hka hkb hia hib hbl hbg
          generalize enF0 T p = E at *
          go_wp2_with fail
          refine Hc.out.mono ?_
          rintro e w2 ⟨rfl, hb2⟩
          have hbel2 := hbel.trans (hb2.mono hbel.size)
          clear hbel hb2 Hc
          have hbs := hbel2.size
          go_wp2_with fail
          refine (Hn.out _).mono ?_
          rintro e w3 ⟨rfl, hw3⟩
          obtain rfl := hw3.symm
          clear Hn
          go_wp2
          exact ⟨⟨j + 1, p + 3, by omega, Hx.out, by go_num, by rw [nums_one, HO.out], hbel2.alloc hbs _⟩, by simp [intOf]; omega⟩
      · have hpT : ¬ p < T.size := by
          have h1 := congrArg List.length HT.out
          rw [bts_len] at h1
          have h2 := Hp.out
          rw [List.take_of_length_le (by omega)] at h2
          have e : T.data.toList.length = T.size := rfl
          omega
        have HL : Hid (l.take j = l) := List.take_of_length_le (by omega)
        clear hlt
        go_wp2
        go_ret2
        refine ⟨?_, hbel⟩
        rw [HL.out]
        rfl
set_option maxRecDepth 100000 in
set_option maxHeartbeats 2000000 in
theorem c13quote (c : Int) (hc : c = 19 ∨ c = 21) (l : List UInt8) (T : ByteArray) (w : World) (hl : l.length ≤ 1048576) (hT : T.data.toList = bts (mid c l)) :
    Calls Try.prog 13 #[.int .i64 c, .string T] w fun e w' => e = .returned (.tuple #[.string ⟨l.toArray⟩, .bool true]) ∧ Below w.heap.size w w' := by
  have hsz : T.size ≤ 6291456 := by
    have h1 := mid_len c l
    have h2 := congrArg List.length hT
    rw [bts_len] at h2
    have e : T.data.toList.length = T.size := rfl
    omega
  have k1 := cv1
  have HT := hide hT
  have HC := hide hc
  clear hT hc
  have key : c = 19 ∨ c = 21 := HC.out
  rcases key with key | key
  · have e17 : (c == 17) = false := by simp [key]
    have e18 : (c == 18) = false := by simp [key]
    have e19 : (c == 19) = true := by simp [key]
    clear key
    go_enter Try.func13, Try.ntmps13
    go_wp2
    go_loopw [6, 9, 10, 11, 12, 13] (fun o i _ _ _ _ wr => ∃ j p : Nat, j ≤ l.length ∧ Hid (p = (mid c (l.take j)).length) ∧ i = .int .i64 p ∧ o = .string ⟨(l.take j).toArray⟩ ∧ Below w.heap.size w wr) (fun _ i _ _ _ _ _ => T.size - (intOf i).toNat)
    case atStart => exact ⟨0, 0, Nat.zero_le _, rfl, rfl, rfl, Below.refl _ _⟩
    case round =>
      obtain ⟨j, p, hj, Hp, rfl, rfl, hbel⟩ := hrel
      by_cases hlt : j < l.length
      · have hv := view c l T HT.out j hlt
        rw [← Hp.out] at hv
        have hpc := pc_posR c l[j].toNat
        have hps := size_drop T p _ _ (by rw [bts_len]; exact hpc) hv
        rw [bts_len] at hps
        have hnx : Hid (p + (pc c l[j].toNat).length = (mid c (l.take (j + 1))).length) := by
          show _ = _
          rw [mid_take c l j hlt, List.length_append, ← Hp.out]
        have hp : p < T.size := by omega
        have hol : (⟨(l.take j).toArray⟩ : ByteArray).size ≤ 1048576 := by
          have : (⟨(l.take j).toArray⟩ : ByteArray).size = (l.take j).length := by simp [ByteArray.size]
          have h2 : (l.take j).length ≤ l.length := List.length_take_le' _ _
          omega
        rcases quote_ways c l[j].toNat HC.out with ⟨q1, q2⟩ | q1
        · rw [q1] at hv hnx
          obtain ⟨hk, hi⟩ := idx_drop T p 0 l[j] (by rw [hv]; simp [bts])
          have hb : (((T[p]'hp).toNat : Int) != 92) = true := by
            have : T[p]'hp = l[j] := hi
            rw [this]; simpa using q2
          have hx : T.extract p (p + 1) = ⟨#[l[j]]⟩ := by
            apply ByteArray.ext
            apply Array.ext'
            rw [Lib.extract_data, hv]
            simp [bts]
          have HO := hide (out_step l j hlt)
          have hxs : (⟨#[l[j]]⟩ : ByteArray).size ≤ 1 := by simp [ByteArray.size]
          have Hx := hide hnx
          clear hv hpc hps hnx q1 q2 hi hk
          go_wp2
          exact ⟨⟨j + 1, p + 1, by omega, Hx.out, by go_num, by rw [HO.out], hbel⟩, by simp [intOf]; omega⟩
        · rw [q1] at hv hnx hps
          obtain ⟨hk, hi⟩ := idx_drop T p 0 92 (by rw [hv]; simp [bts])
          obtain ⟨hka, hia⟩ := idx_drop T p 2 (UInt8.ofNat (hx 97 ((l[j].toNat : Int) / 16)).toNat) (by rw [hv]; simp [bts])
          obtain ⟨hkb, hib⟩ := idx_drop T p (2 + 1) (UInt8.ofNat (hx 97 ((l[j].toNat : Int) % 16)).toNat) (by rw [hv]; simp [bts])
          obtain ⟨hkx, hix⟩ := idx_drop T p 1 120 (by rw [hv]; simp [bts])
          have hbx : (((T[p + 1]'hkx).toNat : Int) == 120) = true := by rw [hix]; decide
          clear hix
          have hb : (((T[p]'hp).toNat : Int) != 92) = false := by
            have : T[p]'hp = 92 := hi
            rw [this]; decide
          have hbl := byte_le l[j]
          have hbg := byte_ge l[j]
          have Hn := hide (fun wx => c19 T ((p : Int) + 2) (p + 2) ((l[j].toNat : Int) / 16) ((l[j].toNat : Int) % 16) wx (by omega) (by omega) (by omega)
            (by show dgv _ = _; rw [hia]; exact hx_dgv 97 _ (by omega) (by omega) (by decide)) (by show dgv _ = _; have := hib; simp only [← Nat.add_assoc] at this; rw [this]; exact hx_dgv 97 _ (by omega) (by omega) (by decide)) (by omega) (by omega) (by omega) (by omega))
          simp only [byte_two] at Hn
          have HO := hide (out_step l j hlt)
          have Hc := hide (c18 T p wr hp (by omega))
          have hps2 : p + 4 ≤ T.size := by simpa using hps
          have Hx : Hid (p + 4 = (mid c (l.take (j + 1))).length) := hnx.out
          have hxs : (strOfNums [(l[j].toNat : Int)]).size ≤ 1 := by rw [strOfNums_size]; simp
          clear q1 hi hk hv hnx hps hpc hka hkb hia hib hbl hbg
          generalize enF0 T p = E at *
          go_wp2_with fail
          refine Hc.out.mono ?_
          rintro e w2 ⟨rfl, hb2⟩
          have hbel2 := hbel.trans (hb2.mono hbel.size)
          clear hbel hb2 Hc
          have hbs := hbel2.size
          go_wp2_with fail
          refine (Hn.out _).mono ?_
          rintro e w3 ⟨rfl, hw3⟩
          obtain rfl := hw3.symm
          clear Hn
          go_wp2
          exact ⟨⟨j + 1, p + 4, by omega, Hx.out, by go_num, by rw [nums_one, HO.out], hbel2.alloc hbs _⟩, by simp [intOf]; omega⟩
      · have hpT : ¬ p < T.size := by
          have h1 := congrArg List.length HT.out
          rw [bts_len] at h1
          have h2 := Hp.out
          rw [List.take_of_length_le (by omega)] at h2
          have e : T.data.toList.length = T.size := rfl
          omega
        have HL : Hid (l.take j = l) := List.take_of_length_le (by omega)
        clear hlt
        go_wp2
        go_ret2
        refine ⟨?_, hbel⟩
        rw [HL.out]
        rfl
  · have e17 : (c == 17) = false := by simp [key]
    have e18 : (c == 18) = false := by simp [key]
    have e19 : (c == 19) = false := by simp [key]
    have e21 : (c == 21) = true := by simp [key]
    clear key
    go_enter Try.func13, Try.ntmps13
    go_wp2
    go_loopw [6, 9, 10, 11, 12, 13] (fun o i _ _ _ _ wr => ∃ j p : Nat, j ≤ l.length ∧ Hid (p = (mid c (l.take j)).length) ∧ i = .int .i64 p ∧ o = .string ⟨(l.take j).toArray⟩ ∧ Below w.heap.size w wr) (fun _ i _ _ _ _ _ => T.size - (intOf i).toNat)
    case atStart => exact ⟨0, 0, Nat.zero_le _, rfl, rfl, rfl, Below.refl _ _⟩
    case round =>
      obtain ⟨j, p, hj, Hp, rfl, rfl, hbel⟩ := hrel
      by_cases hlt : j < l.length
      · have hv := view c l T HT.out j hlt
        rw [← Hp.out] at hv
        have hpc := pc_posR c l[j].toNat
        have hps := size_drop T p _ _ (by rw [bts_len]; exact hpc) hv
        rw [bts_len] at hps
        have hnx : Hid (p + (pc c l[j].toNat).length = (mid c (l.take (j + 1))).length) := by
          show _ = _
          rw [mid_take c l j hlt, List.length_append, ← Hp.out]
        have hp : p < T.size := by omega
        have hol : (⟨(l.take j).toArray⟩ : ByteArray).size ≤ 1048576 := by
          have : (⟨(l.take j).toArray⟩ : ByteArray).size = (l.take j).length := by simp [ByteArray.size]
          have h2 : (l.take j).length ≤ l.length := List.length_take_le' _ _
          omega
        rcases quote_ways c l[j].toNat HC.out with ⟨q1, q2⟩ | q1
        · rw [q1] at hv hnx
          obtain ⟨hk, hi⟩ := idx_drop T p 0 l[j] (by rw [hv]; simp [bts])
          have hb : (((T[p]'hp).toNat : Int) != 92) = true := by
            have : T[p]'hp = l[j] := hi
            rw [this]; simpa using q2
          have hx : T.extract p (p + 1) = ⟨#[l[j]]⟩ := by
            apply ByteArray.ext
            apply Array.ext'
            rw [Lib.extract_data, hv]
            simp [bts]
          have HO := hide (out_step l j hlt)
          have hxs : (⟨#[l[j]]⟩ : ByteArray).size ≤ 1 := by simp [ByteArray.size]
          have Hx := hide hnx
          clear hv hpc hps hnx q1 q2 hi hk
          go_wp2
          exact ⟨⟨j + 1, p + 1, by omega, Hx.out, by go_num, by rw [HO.out], hbel⟩, by simp [intOf]; omega⟩
        · rw [q1] at hv hnx hps
          obtain ⟨hk, hi⟩ := idx_drop T p 0 92 (by rw [hv]; simp [bts])
          obtain ⟨hka, hia⟩ := idx_drop T p 2 (UInt8.ofNat (hx 97 ((l[j].toNat : Int) / 16)).toNat) (by rw [hv]; simp [bts])
          obtain ⟨hkb, hib⟩ := idx_drop T p (2 + 1) (UInt8.ofNat (hx 97 ((l[j].toNat : Int) % 16)).toNat) (by rw [hv]; simp [bts])
          obtain ⟨hkx, hix⟩ := idx_drop T p 1 120 (by rw [hv]; simp [bts])
          have hbx : (((T[p + 1]'hkx).toNat : Int) == 120) = true := by rw [hix]; decide
          clear hix
          have hb : (((T[p]'hp).toNat : Int) != 92) = false := by
            have : T[p]'hp = 92 := hi
            rw [this]; decide
          have hbl := byte_le l[j]
          have hbg := byte_ge l[j]
          have Hn := hide (fun wx => c19 T ((p : Int) + 2) (p + 2) ((l[j].toNat : Int) / 16) ((l[j].toNat : Int) % 16) wx (by omega) (by omega) (by omega)
            (by show dgv _ = _; rw [hia]; exact hx_dgv 97 _ (by omega) (by omega) (by decide)) (by show dgv _ = _; have := hib; simp only [← Nat.add_assoc] at this; rw [this]; exact hx_dgv 97 _ (by omega) (by omega) (by decide)) (by omega) (by omega) (by omega) (by omega))
          simp only [byte_two] at Hn
          have HO := hide (out_step l j hlt)
          have Hc := hide (c18 T p wr hp (by omega))
          have hps2 : p + 4 ≤ T.size := by simpa using hps
          have Hx : Hid (p + 4 = (mid c (l.take (j + 1))).length) := hnx.out
          have hxs : (strOfNums [(l[j].toNat : Int)]).size ≤ 1 := by rw [strOfNums_size]; simp
          clear q1 hi hk hv hnx hps hpc hka hkb hia hib hbl hbg
          generalize enF0 T p = E at *
          go_wp2_with fail
          refine Hc.out.mono ?_
          rintro e w2 ⟨rfl, hb2⟩
          have hbel2 := hbel.trans (hb2.mono hbel.size)
          clear hbel hb2 Hc
          have hbs := hbel2.size
          go_wp2_with fail
          refine (Hn.out _).mono ?_
          rintro e w3 ⟨rfl, hw3⟩
          obtain rfl := hw3.symm
          clear Hn
          go_wp2
          exact ⟨⟨j + 1, p + 4, by omega, Hx.out, by go_num, by rw [nums_one, HO.out], hbel2.alloc hbs _⟩, by simp [intOf]; omega⟩
      · have hpT : ¬ p < T.size := by
          have h1 := congrArg List.length HT.out
          rw [bts_len] at h1
          have h2 := Hp.out
          rw [List.take_of_length_le (by omega)] at h2
          have e : T.data.toList.length = T.size := rfl
          omega
        have HL : Hid (l.take j = l) := List.take_of_length_le (by omega)
        clear hlt
        go_wp2
        go_ret2
        refine ⟨?_, hbel⟩
        rw [HL.out]
        rfl
end Go.Proofs.Ytffkejkgkgfnhaa
