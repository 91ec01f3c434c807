import Derived.Test.YtffkejkgkgfnhabGreatProg
import Derived.Test.YtffkejkgkgfnhabGreatG01
import Derived.WalkKit
import Derived.WalkSpells
import Derived.WalkLawsBesides
import Derived.Deep.QuietTactic
import Derived.BigQuiet
import Derived.Below
namespace Go.Proofs.YtffkejkgkgfnhabGreat
open Go.RowKit
set_option linter.unusedVariables false
theorem hidS {p : Prop} (h : p) : Hid p := h
theorem retS_bool {a b : Bool} (h : a = b) : Ending.returned (.bool a) = .returned (.bool b) := by rw [h]
theorem retS_int {k : IntKind} {a b : Int} (h : a = b) : Ending.returned (.int k a) = .returned (.int k b) := by rw [h]
set_option maxHeartbeats 1000000 in
theorem c98 (s : ByteArray) (w : World) (hs : s.size ≤ 1000) :
    Calls Tryz.prog 79 #[.string s] w fun e w' => e = .returned (.bool (nmd s)) ∧ w' = w := by
  by_cases hn : 1 ≤ s.size ∧ s.size ≤ 8
  · obtain ⟨n1, n2⟩ := hn
    have HN : Hid (nmd s = decide (skp s az 0 = s.size)) := by show _ = _; simp [nmd, n1, n2]
    go_enter Tryz.func79, Tryz.ntmps79
    go_wp2
    go_loop [3] (fun i => ∃ k : Nat, k ≤ s.size ∧ i = .int .i64 k ∧ Hid (skp s az 0 = skp s az k)) (fun i => s.size - (intOf i).toNat)
    case atStart => exact ⟨0, Nat.zero_le _, rfl, rfl⟩
    case round =>
      obtain ⟨k, hk, rfl, H⟩ := hrel
      by_cases hlt : k < s.size
      · have hg := gb_in s k hlt
        cases ha : az (gb s k)
        · have HS := hidS (skp_stop s az k hlt ha)
          have HF : Hid (nmd s = false) := by show _ = _; rw [HN.out, H.out, HS.out]; simp; omega
          rw [hg] at ha
          have ht : (s[k].toNat : Int) < 97 ∨ 122 < (s[k].toNat : Int) := by simp [az] at ha; omega
          clear ha hg
          go_wp2
          all_goals go_ret
          all_goals exact ⟨retS_bool HF.out.symm, rfl⟩
        · have HS := hidS (skp_go s az k hlt ha)
          rw [hg] at ha
          have ht : 97 ≤ (s[k].toNat : Int) := by simp [az] at ha; omega
          have ht2 : (s[k].toNat : Int) ≤ 122 := by simp [az] at ha; omega
          clear ha hg
          go_wp2
          go_round
          case rel => exact ⟨k + 1, by omega, by go_num, H.out.trans HS.out⟩
          case measure => simp [intOf]; omega
      · have HF : Hid (nmd s = true) := by show _ = _; rw [HN.out, H.out, skp_end s az k hlt]; simp; omega
        go_wp2
        go_ret
        exact ⟨retS_bool HF.out.symm, rfl⟩
  · have HF : Hid (nmd s = false) := by show _ = _; simp [nmd, hn]
    go_enter Tryz.func79, Tryz.ntmps79
    go_wp2
    all_goals go_ret
    all_goals exact ⟨retS_bool HF.out.symm, rfl⟩
set_option maxHeartbeats 1000000 in
theorem c99 (s : ByteArray) (p : Nat) (w : World) (hs : s.size ≤ 1000) (hp : p ≤ s.size) :
    Calls Tryz.prog 80 #[.string s, .int .i64 p] w fun e w' => e = .returned (.int .i64 (skp s txB p)) ∧ w' = w := by
  go_enter Tryz.func80, Tryz.ntmps80
  go_wp2
  go_loop [1] (fun i => ∃ k : Nat, k ≤ s.size ∧ i = .int .i64 k ∧ Hid (skp s txB p = skp s txB k)) (fun i => s.size - (intOf i).toNat)
  case atStart => exact ⟨p, hp, rfl, rfl⟩
  case round =>
    obtain ⟨k, hk, rfl, H⟩ := hrel
    by_cases hlt : k < s.size
    · have hg := gb_in s k hlt
      cases ha : txB (gb s k)
      · have HS := hidS (skp_stop s txB k hlt ha)
        rw [hg] at ha
        have ht : ((s[k].toNat : Int) != 123) = false ∨ ((s[k].toNat : Int) != 125) = false := by simp [txB] at ha; simp; omega
        clear ha hg
        have HF := hidS (H.out.trans HS.out)
        rcases ht with ht | ht
        · go_wp2
          all_goals go_ret
          all_goals exact ⟨retS_int (by rw [HF.out]), rfl⟩
        · go_wp2
          all_goals go_ret
          all_goals exact ⟨retS_int (by rw [HF.out]), rfl⟩
      · have HS := hidS (skp_go s txB k hlt ha)
        rw [hg] at ha
        have ht : ((s[k].toNat : Int) != 123) = true := by simp [txB] at ha; simp; omega
        have ht2 : ((s[k].toNat : Int) != 125) = true := by simp [txB] at ha; simp; omega
        clear ha hg
        go_wp2
        go_round
        case rel => exact ⟨k + 1, by omega, by go_num, H.out.trans HS.out⟩
        case measure => simp [intOf]; omega
    · have HF : Hid (skp s txB p = k) := H.out.trans (skp_end s txB k hlt)
      go_wp2
      go_ret
      exact ⟨retS_int (by rw [HF.out]), rfl⟩
/-- what the ref's action answers -/
def raOf (s : ByteArray) (p : Nat) : Ending := .returned (.tuple #[.int .u8 (sg (act s p).kind), .string (act s p).name, .int .i64 ((act s p).next : Int)])
theorem raOf_none (s : ByteArray) (p : Nat) (h : (act s p).kind = 0) : raOf s p = .returned (.tuple #[.int .u8 0, .string ⟨#[]⟩, .int .i64 (p : Int)]) := by
  rw [raOf, act_none s p h]; rfl
theorem act_no (s : ByteArray) (p : Nat) (h : ¬ (p < s.size ∧ gb s p = 123)) : (act s p).kind = 0 := by
  by_cases e : (act s p).kind = 0
  · exact e
  · have := act_next s p e; omega
set_option maxHeartbeats 1000000 in
theorem c83no (s : ByteArray) (p : Nat) (w : World) (hs : s.size ≤ 1000) (hp : p ≤ s.size) (h : ¬ (p < s.size ∧ gb s p = 123)) :
    Calls Tryz.prog 53 #[.string s, .int .i64 p] w fun e w' => e = raOf s p ∧ ∃ n, w' = w.drewN n := by
  have HE := hidS (raOf_none s p (act_no s p h))
  by_cases hlt : p < s.size
  · have hg := gb_in s p hlt
    have ht : ((s[p].toNat : Int) != 123) = true := by rw [← hg]; simp; omega
    clear h hg
    go_enter Tryz.func53, Tryz.ntmps53
    go_wp2
    go_ret3
    exact ⟨HE.out.symm, 0, rfl⟩
  · clear h
    go_enter Tryz.func53, Tryz.ntmps53
    go_wp2
    go_ret3
    exact ⟨HE.out.symm, 0, rfl⟩
def raV (m : Int) (nm : ByteArray) (k : Nat) : Ending := .returned (.tuple #[.int .u8 m, .string nm, .int .i64 ((k : Int) + 1)])
def ex (s : ByteArray) (p k : Nat) (x : UInt8) (v : Bool) : Prop := ((s.extract (p + 1) k).toList == [x]) = v
theorem ra_ways (s : ByteArray) (p k : Nat) (hb : gb s p = 123) (hk : rq s p = k) (hlt : k < s.size) (h1 : p + 2 ≤ k) :
    (ex s p k 58 true ∧ gb s (p + 1) = 58 ∧ raOf s p = raV 58 ⟨#[]⟩ k) ∨
    (ex s p k 58 false ∧ ex s p k 47 true ∧ gb s (p + 1) = 47 ∧ raOf s p = raV 47 ⟨#[]⟩ k) ∨
    (ex s p k 58 false ∧ ex s p k 47 false ∧ ex s p k 45 true ∧ gb s (p + 1) = 45 ∧ raOf s p = raV 45 ⟨#[]⟩ k) ∨
    (ex s p k 58 false ∧ ex s p k 47 false ∧ ex s p k 45 false ∧
      ((nmd (s.extract (p + 1) k) = true ∧ raOf s p = raV 32 (s.extract (p + 1) k) k) ∨
       (nmd (s.extract (p + 1) k) = false ∧ nmd (s.extract (p + 2) k) = true ∧ isMark (gb s (p + 1)) ∧ raOf s p = raV (gb s (p + 1)) (s.extract (p + 2) k) k) ∨
       (nmd (s.extract (p + 1) k) = false ∧ nmd (s.extract (p + 2) k) = true ∧ ¬ isMark (gb s (p + 1)) ∧ raOf s p = .returned (.tuple #[.int .u8 0, .string ⟨#[]⟩, .int .i64 (p : Int)])) ∨
       (nmd (s.extract (p + 1) k) = false ∧ nmd (s.extract (p + 2) k) = false ∧ raOf s p = .returned (.tuple #[.int .u8 0, .string ⟨#[]⟩, .int .i64 (p : Int)])))) := by
  have o := fun x => ext_one s (p + 1) k x (by omega) (by omega)
  have o58 := o 58
  have o47 := o 47
  have o45 := o 45
  have e58 : ((58 : UInt8).toNat : Int) = 58 := rfl
  have e47 : ((47 : UInt8).toNat : Int) = 47 := rfl
  have e45 : ((45 : UInt8).toNat : Int) = 45 := rfl
  rw [e58] at o58
  rw [e47] at o47
  rw [e45] at o45
  unfold ex
  rw [o58, o47, o45]
  clear o o58 o47 o45 e58 e47 e45
  have back := fun h => way_back s p h
  have val : ∀ (a : Int) (n : ByteArray) (x : Int), act s p = ⟨a, n, k + 1⟩ → sg a = x → raOf s p = raV x n k := by
    intro a n x e1 e2
    rw [raOf, e1, raV, ← e2]; rfl
  by_cases h2 : k = p + 2
  · by_cases hm : gb s (p + 1) = 58 ∨ gb s (p + 1) = 47 ∨ gb s (p + 1) = 45
    · obtain ⟨v1, v2, _⟩ := way_one s p hb (by omega) (by omega) hm
      rw [hk] at v1
      have v3 := val _ _ _ v1 v2
      rcases hm with hm | hm | hm <;> rw [hm] at v3 ⊢ <;> simp [h2] <;> rw [← h2] <;> exact v3
    · right; right; right
      refine ⟨by simp; omega, by simp; omega, by simp; omega, ?_⟩
      cases hn : nmd (s.extract (p + 1) k)
      · right
        cases hn2 : nmd (s.extract (p + 2) k)
        · right; right
          refine ⟨rfl, rfl, raOf_none s p ?_⟩
          by_cases e : (act s p).kind = 0
          · exact e
          · obtain ⟨_, _, _, _, h⟩ := back e
            rw [hk] at h
            rcases h with h | h | h
            · exact absurd h.2 hm
            · rw [hn] at h; cases h
            · rw [hn2] at h; cases h.2
        · exfalso
          have := ((nmd_ext s (p + 2) k (by omega)).1 hn2).1
          omega
      · left
        refine ⟨rfl, ?_⟩
        have := way_hole s p hb (by omega) (by rw [hk]; exact hn)
        rw [hk] at this
        exact val _ _ _ this rfl
  · right; right; right
    refine ⟨by simp; omega, by simp; omega, by simp; omega, ?_⟩
    cases hn : nmd (s.extract (p + 1) k)
    · right
      cases hn2 : nmd (s.extract (p + 2) k)
      · right; right
        refine ⟨rfl, rfl, raOf_none s p ?_⟩
        by_cases e : (act s p).kind = 0
        · exact e
        · obtain ⟨_, _, _, _, h⟩ := back e
          rw [hk] at h
          rcases h with h | h | h
          · omega
          · rw [hn] at h; cases h
          · rw [hn2] at h; cases h.2
      · by_cases hm : isMark (gb s (p + 1))
        · left
          obtain ⟨v1, v2, _⟩ := way_mark s p hb (by omega) hm (by rw [hk]; exact hn2)
          rw [hk] at v1
          exact ⟨rfl, rfl, hm, val _ _ _ v1 v2⟩
        · right; left
          refine ⟨rfl, rfl, hm, raOf_none s p ?_⟩
          by_cases e : (act s p).kind = 0
          · exact e
          · obtain ⟨_, _, _, _, h⟩ := back e
            rw [hk] at h
            rcases h with h | h | h
            · omega
            · rw [hn] at h; cases h
            · exact absurd h.1 hm
    · left
      refine ⟨rfl, ?_⟩
      have := way_hole s p hb (by omega) (by rw [hk]; exact hn)
      rw [hk] at this
      exact val _ _ _ this rfl
theorem ra_out (s : ByteArray) (p k : Nat) (hk : rq s p = k) (h : ¬ k < s.size ∨ k = p + 1) : raOf s p = .returned (.tuple #[.int .u8 0, .string ⟨#[]⟩, .int .i64 (p : Int)]) := by
  apply raOf_none
  by_cases e : (act s p).kind = 0
  · exact e
  · obtain ⟨_, _, h1, h2, _⟩ := way_back s p e
    omega
theorem ra_fin {a b : Ending} {w : World} (h : b = a) : a = b ∧ ∃ n, w = w.drewN n := ⟨h.symm, 0, rfl⟩
set_option maxHeartbeats 4000000 in
theorem c83yes (s : ByteArray) (p : Nat) (w : World) (hs : s.size ≤ 1000) (hp : p < s.size) (hb : gb s p = 123) :
    Calls Tryz.prog 53 #[.string s, .int .i64 p] w fun e w' => e = raOf s p ∧ ∃ n, w' = w.drewN n := by
  have hg := gb_in s p hp
  have ht : ((s[p].toNat : Int) != 123) = false := by rw [← hg, hb]; decide
  have HB := hidS hb
  clear hg hb
  go_enter Tryz.func53, Tryz.ntmps53
  go_wp2
  go_loop [7] (fun i => ∃ k : Nat, p + 1 ≤ k ∧ k ≤ s.size ∧ i = .int .i64 k ∧ Hid (rq s p = skp s nbB k)) (fun i => s.size - (intOf i).toNat)
  case atStart => exact ⟨p + 1, by omega, by omega, by go_num, rfl⟩
  case round =>
    obtain ⟨k, hk0, hk, rfl, H⟩ := hrel
    by_cases hlt : k < s.size
    · have hg := gb_in s k hlt
      cases ha : nbB (gb s k)
      · have HS : Hid (rq s p = k) := H.out.trans (skp_stop s nbB k hlt ha)
        clear H
        have hq : ((s[k].toNat : Int) != 125) = false := by rw [← hg]; simpa [nbB] using ha
        clear ha hg
        by_cases hk1 : k = p + 1
        · have HE := hidS (ra_out s p k HS.out (.inr hk1))
          have e1 : ((k : Int) == (p : Int) + 1) = true := by simp; omega
          clear hk1
          go_wp2
          all_goals go_ret3
          all_goals exact ra_fin HE.out
        · have e1 : ((k : Int) == (p : Int) + 1) = false := by simp; omega
          have e2 : p + 2 ≤ k := by omega
          have e3 : 0 < k - (p + 1) := by omega
          have hz : 0 < (s.extract (p + 1) k).size := by rw [ext_size s _ _ (by omega)]; omega
          have hh := ext_head s (p + 1) k (by omega) (by omega) hz
          have htl : (s.extract (p + 1) k).extract 1 (k - (p + 1)) = s.extract (p + 2) k := by
            have := ext_tail s (p + 1) k (by omega) (by omega)
            rw [ext_size s _ _ (by omega)] at this
            exact this
          have hz1 : (s.extract (p + 1) k).size ≤ 1000 := by rw [ext_size s _ _ (by omega)]; omega
          have hz2 : (s.extract (p + 2) k).size ≤ 1000 := by rw [ext_size s _ _ (by omega)]; omega
          clear hk1
          rcases ra_ways s p k HB.out HS.out hlt e2 with ⟨f1, hm, he⟩ | ⟨f1, f2, hm, he⟩ | ⟨f1, f2, f3, hm, he⟩ | ⟨f1, f2, f3, hw⟩
          · unfold ex at f1
            rw [hm] at hh
            have HE := hidS he
            clear he hm htl hz1 hz2
            go_wp2
            go_ret3
            exact ra_fin HE.out
          · unfold ex at f1 f2
            rw [hm] at hh
            have HE := hidS he
            clear he hm htl hz1 hz2
            go_wp2
            go_ret3
            exact ra_fin HE.out
          · unfold ex at f1 f2 f3
            rw [hm] at hh
            have HE := hidS he
            clear he hm htl hz1 hz2
            go_wp2
            go_ret3
            exact ra_fin HE.out
          · unfold ex at f1 f2 f3
            rcases hw with ⟨n1, he⟩ | ⟨n1, n2, hm, he⟩ | ⟨n1, n2, hm, he⟩ | ⟨n1, n2, he⟩
            · have HE := hidS he
              clear he htl hz2 hh
              go_wp2_with (go_at_call 79; refine (c98 _ _ hz1).mono ?_; rintro e w' ⟨rfl, rfl⟩)
              go_ret3
              exact ra_fin HE.out
            · have HE := hidS he
              clear he
              rcases hm with hm | hm | hm | hm
              all_goals
                rw [hm] at hh HE
                clear hm
                go_wp2_with fail
                refine (c98 _ _ hz1).mono ?_
                rintro e w1 ⟨rfl, rfl⟩
                go_wp2_with fail
                refine (c98 _ _ hz2).mono ?_
                rintro e w2 ⟨rfl, rfl⟩
                go_wp2
                go_quiet (fail)
                go_wp2
                go_ret3
                exact ⟨HE.out.symm, _, rfl⟩
            · have HE := hidS he
              have m1 : (gb s (p + 1) == 63) = false := by simp; intro e; exact hm (by unfold isMark; omega)
              have m2 : (gb s (p + 1) == 42) = false := by simp; intro e; exact hm (by unfold isMark; omega)
              have m3 : (gb s (p + 1) == 62) = false := by simp; intro e; exact hm (by unfold isMark; omega)
              have m4 : (gb s (p + 1) == 43) = false := by simp; intro e; exact hm (by unfold isMark; omega)
              clear he hm
              go_wp2_with fail
              refine (c98 _ _ hz1).mono ?_
              rintro e w1 ⟨rfl, rfl⟩
              go_wp2_with fail
              refine (c98 _ _ hz2).mono ?_
              rintro e w2 ⟨rfl, rfl⟩
              go_wp2
              go_ret3
              exact ra_fin HE.out
            · have HE := hidS he
              clear he hh
              go_wp2_with fail
              refine (c98 _ _ hz1).mono ?_
              rintro e w1 ⟨rfl, rfl⟩
              go_wp2_with fail
              refine (c98 _ _ hz2).mono ?_
              rintro e w2 ⟨rfl, rfl⟩
              go_wp2
              go_ret3
              exact ra_fin HE.out
      · have HS := hidS (skp_go s nbB k hlt ha)
        rw [hg] at ha
        have ht : ((s[k].toNat : Int) != 125) = true := by simpa [nbB] using ha
        clear ha hg
        go_wp2
        go_round
        case rel => exact ⟨k + 1, by omega, by omega, by go_num, H.out.trans HS.out⟩
        case measure => simp [intOf]; omega
    · have HS : Hid (rq s p = k) := H.out.trans (skp_end s nbB k hlt)
      have HE := hidS (ra_out s p k HS.out (.inl hlt))
      go_wp2
      all_goals go_ret3
      all_goals exact ra_fin HE.out
theorem c83 (s : ByteArray) (p : Nat) (w : World) (hs : s.size ≤ 1000) (hp : p ≤ s.size) :
    Calls Tryz.prog 53 #[.string s, .int .i64 p] w fun e w' => e = raOf s p ∧ ∃ n, w' = w.drewN n := by
  by_cases h : p < s.size ∧ gb s p = 123
  · exact c83yes s p w hs h.1 h.2
  · exact c83no s p w hs hp h
end Go.Proofs.YtffkejkgkgfnhabGreat
namespace Go.Proofs.YtffkejkgkgfnhabGreat
open Go.RowKit
set_option linter.unusedVariables false
inductive Nds where
  | nil
  | cons (k at' : Int) (nm : ByteArray) (th el : Nds) (two : Bool) (r : Nds)
def Nds.len : Nds → Nat
  | .nil => 0
  | .cons _ _ _ _ _ _ r => r.len + 1
def Nds.app : Nds → Nds → Nds
  | .nil, b => b
  | .cons k a n t e w r, b => .cons k a n t e w (r.app b)
theorem Nds.len_app (a b : Nds) : (a.app b).len = a.len + b.len := by
  induction a with
  | nil => simp [Nds.app, Nds.len]
  | cons k a n t e w r iht ihe ih => simp [Nds.app, Nds.len, ih]; omega
/-- a source from place p to place e, as pieces and as actions, with d things open around it -/
inductive Flat (s : ByteArray) : Nat → Nds → Nat → List Ak → Nat → Prop where
  | nil (d p : Nat) : Flat s d .nil p [] p
  | text {d p e : Nat} {r : Nds} {A : List Ak} (h : p < skp s txB p) (k : Flat s d r (skp s txB p) A e) : Flat s d (.cons 1 p (s.extract p (skp s txB p)) .nil .nil false r) p A e
  | hole {d p e : Nat} {r : Nds} {A : List Ak} (h : (act s p).kind = 3) (k : Flat s d r (act s p).next A e) : Flat s d (.cons 2 p (act s p).name .nil .nil false r) p (⟨3, (act s p).name, p⟩ :: A) e
  | call {d p e : Nat} {r : Nds} {A : List Ak} (h : (act s p).kind = 8) (k : Flat s d r (act s p).next A e) : Flat s d (.cons 5 p (act s p).name .nil .nil false r) p (⟨8, (act s p).name, p⟩ :: A) e
  | loop {d p e e1 : Nat} {th r : Nds} {A1 A : List Ak} (hd : d < 8) (h : (act s p).kind = 6) (k1 : Flat s (d + 1) th (act s p).next A1 e1) (h1 : (act s e1).kind = 7) (k : Flat s d r (act s e1).next A e) :
      Flat s d (.cons 4 p (act s p).name th .nil false r) p (⟨6, (act s p).name, p⟩ :: (A1 ++ ⟨7, (act s e1).name, e1⟩ :: A)) e
  | one {d p e e1 : Nat} {th r : Nds} {A1 A : List Ak} (hd : d < 8) (h : (act s p).kind = 4) (k1 : Flat s (d + 1) th (act s p).next A1 e1) (h1 : (act s e1).kind = 7) (k : Flat s d r (act s e1).next A e) :
      Flat s d (.cons 3 p (act s p).name th .nil false r) p (⟨4, (act s p).name, p⟩ :: (A1 ++ ⟨7, (act s e1).name, e1⟩ :: A)) e
  | two {d p e e1 e2 : Nat} {th el r : Nds} {A1 A2 A : List Ak} (hd : d < 8) (h : (act s p).kind = 4) (k1 : Flat s (d + 1) th (act s p).next A1 e1) (h1 : (act s e1).kind = 5) (k2 : Flat s (d + 1) el (act s e1).next A2 e2) (h2 : (act s e2).kind = 7)
      (k : Flat s d r (act s e2).next A e) :
      Flat s d (.cons 3 p (act s p).name th el true r) p (⟨4, (act s p).name, p⟩ :: (A1 ++ ⟨5, (act s e1).name, e1⟩ :: (A2 ++ ⟨7, (act s e2).name, e2⟩ :: A))) e
theorem Flat.app {s : ByteArray} {d p q e : Nat} {a b : Nds} {A B : List Ak} (h : Flat s d a p A q) (k : Flat s d b q B e) : Flat s d (a.app b) p (A ++ B) e := by
  induction h with
  | nil d p => exact k
  | text h _ ih => exact .text h (ih k)
  | hole h _ ih => exact .hole h (ih k)
  | call h _ ih => exact .call h (ih k)
  | loop hd h k1 h1 _ _ ih => have := Flat.loop hd h k1 h1 (ih k); simpa [Nds.app] using this
  | one hd h k1 h1 _ _ ih => have := Flat.one hd h k1 h1 (ih k); simpa [Nds.app] using this
  | two hd h k1 h1 k2 h2 _ _ _ ih => have := Flat.two hd h k1 h1 k2 h2 (ih k); simpa [Nds.app] using this
theorem step_text (s : ByteArray) (p nt : Nat) (op : List Int) (acts : List Ak) (h : p < s.size) (ht : txB (gb s p) = true) : stepC s ⟨p, true, nt, op, acts⟩ = .go ⟨p + 1, true, nt, op, acts⟩ := by
  simp only [txB, decide_eq_true_eq] at ht
  simp [stepC, h, ht]
theorem reach_text (s : ByteArray) (p nt : Nat) (op : List Int) (acts : List Ak) : Reach s ⟨p, true, nt, op, acts⟩ ⟨skp s txB p, true, nt, op, acts⟩ := by
  induction hn : s.size - p generalizing p with
  | zero => rw [skp_end s txB p (by omega)]; exact .refl _
  | succ n ih =>
    have h : p < s.size := by omega
    cases ha : txB (gb s p)
    · rw [skp_stop s txB p h ha]; exact .refl _
    · rw [skp_go s txB p h ha]; exact .step (step_text s p nt op acts h ha) (ih (p + 1) (by omega))
theorem step_act (s : ByteArray) (p nt : Nat) (op : List Int) (acts : List Ak) (i : Bool) (n : Nat) (o : List Int) (inb : Bool) (h : (act s p).kind ≠ 0) (ht : takeS inb nt op (act s p).kind = some (i, n, o)) :
    stepC s ⟨p, inb, nt, op, acts⟩ = .go ⟨(act s p).next, i, n, o, acts ++ [⟨(act s p).kind, (act s p).name, p⟩]⟩ := by
  obtain ⟨_, _, h1, h2⟩ := act_next s p h
  simp [stepC, show p < s.size by omega, h2, ht]
theorem step_err (s : ByteArray) (p nt : Nat) (op : List Int) (acts : List Ak) (inb : Bool) (h : p < s.size) (hb : inb = true → txB (gb s p) = false) (ht : takeS inb nt op (act s p).kind = none) :
    stepC s ⟨p, inb, nt, op, acts⟩ = .err p := by
  have : ¬ (inb = true ∧ gb s p ≠ 123 ∧ gb s p ≠ 125) := by
    rintro ⟨h1, h2⟩
    have := hb h1
    simp [txB] at this
    omega
  simp only [stepC, h, if_true]
  rw [if_neg this]
  simp [ht]
theorem ends_err {s : ByteArray} {c : Cfg} {w : Nat} (h : stepC s c = .err w) : Ends s c (.err w) := ⟨c, .refl _, h, trivial⟩
theorem Flat.reach {s : ByteArray} {d p e : Nat} {a : Nds} {A : List Ak} (h : Flat s d a p A e) (nt : Nat) (op : List Int) (acts : List Ak) (ho : op.length = d) :
    Reach s ⟨p, true, nt, op, acts⟩ ⟨e, true, nt, op, acts ++ A⟩ := by
  induction h generalizing op acts with
  | nil d p => simpa using Reach.refl _
  | text h _ ih => exact (reach_text s _ nt op acts).trans (ih op acts ho)
  | @hole d p e r A h _ ih =>
    have s1 := step_act s p nt op acts true nt op true (by omega) (by rw [h]; simp [takeS])
    rw [h] at s1
    have k := ih op (acts ++ [⟨3, (act s p).name, p⟩]) ho
    rw [List.append_assoc] at k
    exact .step s1 k
  | @call d p e r A h _ ih =>
    have s1 := step_act s p nt op acts true nt op true (by omega) (by rw [h]; simp [takeS])
    rw [h] at s1
    have k := ih op (acts ++ [⟨8, (act s p).name, p⟩]) ho
    rw [List.append_assoc] at k
    exact .step s1 k
  | @loop d p e e1 th r A1 A hd h k1 h1 _ ih1 ih =>
    have s1 := step_act s p nt op acts true nt (op ++ [6]) true (by omega) (by rw [h]; simp [takeS]; omega)
    rw [h] at s1
    have r1 := ih1 (op ++ [6]) (acts ++ [⟨6, (act s p).name, p⟩]) (by simp [ho])
    have s2 := step_act s e1 nt (op ++ [6]) (acts ++ [⟨6, (act s p).name, p⟩] ++ A1) true nt op true (by omega) (by rw [h1]; simp [takeS])
    rw [h1] at s2
    have r2 := ih op (acts ++ [⟨6, (act s p).name, p⟩] ++ A1 ++ [⟨7, (act s e1).name, e1⟩]) ho
    have := Reach.step s1 (r1.trans (.step s2 r2))
    simpa [List.append_assoc] using this
  | @one d p e e1 th r A1 A hd h k1 h1 _ ih1 ih =>
    have s1 := step_act s p nt op acts true nt (op ++ [4]) true (by omega) (by rw [h]; simp [takeS]; omega)
    rw [h] at s1
    have r1 := ih1 (op ++ [4]) (acts ++ [⟨4, (act s p).name, p⟩]) (by simp [ho])
    have s2 := step_act s e1 nt (op ++ [4]) (acts ++ [⟨4, (act s p).name, p⟩] ++ A1) true nt op true (by omega) (by rw [h1]; simp [takeS])
    rw [h1] at s2
    have r2 := ih op (acts ++ [⟨4, (act s p).name, p⟩] ++ A1 ++ [⟨7, (act s e1).name, e1⟩]) ho
    have := Reach.step s1 (r1.trans (.step s2 r2))
    simpa [List.append_assoc] using this
  | @two d p e e1 e2 th el r A1 A2 A hd h k1 h1 k2 h2 _ ih1 ih2 ih =>
    have s1 := step_act s p nt op acts true nt (op ++ [4]) true (by omega) (by rw [h]; simp [takeS]; omega)
    rw [h] at s1
    have r1 := ih1 (op ++ [4]) (acts ++ [⟨4, (act s p).name, p⟩]) (by simp [ho])
    have s2 := step_act s e1 nt (op ++ [4]) (acts ++ [⟨4, (act s p).name, p⟩] ++ A1) true nt (op ++ [5]) true (by omega) (by rw [h1]; simp [takeS])
    rw [h1] at s2
    have r2 := ih2 (op ++ [5]) (acts ++ [⟨4, (act s p).name, p⟩] ++ A1 ++ [⟨5, (act s e1).name, e1⟩]) (by simp [ho])
    have s3 := step_act s e2 nt (op ++ [5]) (acts ++ [⟨4, (act s p).name, p⟩] ++ A1 ++ [⟨5, (act s e1).name, e1⟩] ++ A2) true nt op true (by omega) (by rw [h2]; simp [takeS])
    rw [h2] at s3
    have r3 := ih op (acts ++ [⟨4, (act s p).name, p⟩] ++ A1 ++ [⟨5, (act s e1).name, e1⟩] ++ A2 ++ [⟨7, (act s e2).name, e2⟩]) ho
    have := Reach.step s1 (r1.trans (.step s2 (r2.trans (.step s3 r3))))
    simpa [List.append_assoc] using this
def ndC (k a : Int) (nm : ByteArray) (tv ev : Value) (two : Bool) : List Value := [.int .i64 k, .int .i64 a, .string nm, tv, ev, .bool two]
def SlcX (w : World) (A : Nat → Prop) (ty sz : Nat) (v : Value) (n : Nat) (R : List Value → Prop) : Prop :=
  (v = .slice none 0 0 ∧ n = 0 ∧ R []) ∨ ∃ g cap cur, v = .slice (some ⟨g, 0, none⟩) n cap ∧ A g ∧ w.heap[g]? = some (.cells cur ty (0, 0)) ∧ n ≤ cap ∧ cap ≤ maxLen ∧ cur.size = cap * sz ∧ R (cur.toList.take (n * sz))
def RowOK (w : World) (A : Nat → Prop) (ty : Nat) : Nds → List Value → Prop
  | .nil => fun xs => xs = []
  | .cons k a nm th el two r => fun xs => ∃ tv ev ys, xs = ndC k a nm tv ev two ++ ys ∧ SlcX w A ty 6 tv th.len (RowOK w A ty th) ∧ SlcX w A ty 6 ev el.len (RowOK w A ty el) ∧ RowOK w A ty r ys
def Slc (w : World) (A : Nat → Prop) (ty : Nat) (v : Value) (ns : Nds) : Prop := SlcX w A ty 6 v ns.len (RowOK w A ty ns)
theorem SlcX.mono {w w' : World} {A A' : Nat → Prop} {ty sz : Nat} {v : Value} {n : Nat} {R R' : List Value → Prop} (h : SlcX w A ty sz v n R) (hw : ∀ k, A k → w'.heap[k]? = w.heap[k]?) (hA : ∀ k, A k → A' k) (hR : ∀ xs, R xs → R' xs) : SlcX w' A' ty sz v n R' := by
  rcases h with ⟨h1, h2, h3⟩ | ⟨g, cap, cur, h1, h2, h3, h4, h5, h6, h7⟩
  · exact .inl ⟨h1, h2, hR _ h3⟩
  · exact .inr ⟨g, cap, cur, h1, hA g h2, (hw g h2).trans h3, h4, h5, h6, hR _ h7⟩
theorem RowOK.mono {w w' : World} {A A' : Nat → Prop} {ty : Nat} (hw : ∀ k, A k → w'.heap[k]? = w.heap[k]?) (hA : ∀ k, A k → A' k) : ∀ (ns : Nds) (xs : List Value), RowOK w A ty ns xs → RowOK w' A' ty ns xs
  | .nil, xs, h => h
  | .cons k a nm th el two r, xs, h => by
    obtain ⟨tv, ev, ys, h1, h2, h3, h4⟩ := h
    exact ⟨tv, ev, ys, h1, h2.mono hw hA (RowOK.mono hw hA th), h3.mono hw hA (RowOK.mono hw hA el), RowOK.mono hw hA r ys h4⟩
theorem Slc.mono {w w' : World} {A A' : Nat → Prop} {ty : Nat} {v : Value} {ns : Nds} (h : Slc w A ty v ns) (hw : ∀ k, A k → w'.heap[k]? = w.heap[k]?) (hA : ∀ k, A k → A' k) : Slc w' A' ty v ns :=
  SlcX.mono h hw hA (RowOK.mono hw hA ns)
theorem RowOK.len {w : World} {A : Nat → Prop} {ty : Nat} : ∀ (ns : Nds) (xs : List Value), RowOK w A ty ns xs → xs.length = ns.len * 6
  | .nil, xs, h => by
    have h' : xs = [] := h
    subst h'; rfl
  | .cons k a nm th el two r, xs, h => by
    obtain ⟨tv, ev, ys, rfl, h2, h3, h4⟩ := h
    have := RowOK.len r ys h4
    simp [ndC, Nds.len, this]; omega
theorem RowOK.app {w : World} {A : Nat → Prop} {ty : Nat} : ∀ (a b : Nds) (xs ys : List Value), RowOK w A ty a xs → RowOK w A ty b ys → RowOK w A ty (a.app b) (xs ++ ys)
  | .nil, b, xs, ys, h, k => by
    have h' : xs = [] := h
    subst h'; simpa [Nds.app] using k
  | .cons q a nm th el two r, b, xs, ys, h, k => by
    obtain ⟨tv, ev, zs, rfl, h2, h3, h4⟩ := h
    exact ⟨tv, ev, zs ++ ys, by simp, h2, h3, RowOK.app r b zs ys h4 k⟩
theorem Slc.nil (w : World) (A : Nat → Prop) (ty : Nat) : Slc w A ty (.slice none 0 0) .nil := .inl ⟨rfl, rfl, rfl⟩
/-- a row that the call owns, as pieces -/
theorem Slc.ofOwn {w : World} {A : Nat → Prop} {base ty : Nat} {v : Value} {ns : Nds} {xs : List Value} (h : w.ownsRow base ty 6 v ns.len xs) (hA : ∀ g, v.ownBlock = some g → A g) (hr : RowOK w A ty ns xs) : Slc w A ty v ns := by
  rcases h.2 with ⟨rfl, h0⟩ | ⟨g, cap, cur, rfl, hb, hg, hn, hm, hs, ht⟩
  · have hx : xs = [] := List.length_eq_zero_iff.1 (by rw [h.1, h0])
    subst hx
    exact .inl ⟨rfl, h0, hr⟩
  · exact .inr ⟨g, cap, cur, rfl, hA g rfl, hg, hn, hm, hs, by rw [ht]; exact hr⟩
end Go.Proofs.YtffkejkgkgfnhabGreat
