import Derived.Test.YtffkejkgkgfnhabGreatG02
import Derived.Deep.AppendLies
namespace Go.Proofs.YtffkejkgkgfnhabGreat
open Go.RowKit
set_option linter.unusedVariables false
def termK (k : Int) : Prop := k = 2 ∨ k = 5 ∨ k = 7
def rng (a b : Nat) : Nat → Prop := fun k => a ≤ k ∧ k < b
def EndsErr (s : ByteArray) (p d wr : Nat) : Prop := ∀ nt op acts, op.length = d → Ends s ⟨p, true, nt, op, acts⟩ (.err wr)
def BodyOK (s : ByteArray) (p : Nat) : Prop := ∀ (d : Nat) (w : World), d ≤ 8 → Calls Tryz.prog 54 #[.string s, .int .i64 p, .int .i64 d] w fun e w' => Below w.heap.size w w' ∧
  ((∃ wr : Nat, e = .returned (.tuple #[.slice none 0 0, .int .i64 0, .int .i64 wr]) ∧ EndsErr s p d wr) ∨
   (∃ (a : Option Addr) (n c : Nat) (ns : Nds) (A : List Ak) (q : Nat), e = .returned (.tuple #[.slice a n c, .int .i64 q, .int .i64 (-1)]) ∧ Flat s d ns p A q ∧ q < s.size ∧ termK (act s q).kind ∧ Slc w' (rng w.heap.size w'.heap.size) 102 (.slice a n c) ns))
def ThingOK (s : ByteArray) (p : Nat) : Prop := ∀ (d : Nat) (w : World), d ≤ 8 → ((act s p).kind = 4 ∨ (act s p).kind = 6) → Calls Tryz.prog 81 #[.string s, .int .i64 p, .int .i64 d] w fun e w' => Below w.heap.size w w' ∧
  ((∃ (k at' : Int) (nm : ByteArray) (ta ea : Option Addr) (tn tc en ec : Nat) (two : Bool) (wr : Nat), e = .returned (.tuple #[.agg #[.int .i64 k, .int .i64 at', .string nm, .slice ta tn tc, .slice ea en ec, .bool two], .int .i64 0, .int .i64 wr]) ∧ EndsErr s p d wr) ∨
   (∃ (k : Int) (nm : ByteArray) (ta ea : Option Addr) (tn tc en ec : Nat) (two : Bool) (th el : Nds) (A : List Ak) (q : Nat), e = .returned (.tuple #[.agg #[.int .i64 k, .int .i64 p, .string nm, .slice ta tn tc, .slice ea en ec, .bool two], .int .i64 q, .int .i64 (-1)]) ∧
     Flat s d (.cons k p nm th el two .nil) p A q ∧ q ≤ s.size ∧ p < q ∧ Slc w' (rng w.heap.size w'.heap.size) 102 (.slice ta tn tc) th ∧ Slc w' (rng w.heap.size w'.heap.size) 102 (.slice ea en ec) el))
theorem err_nest (s : ByteArray) (p d : Nat) (hd : ¬ d < 8) (hk : (act s p).kind = 4 ∨ (act s p).kind = 6) : EndsErr s p d p := by
  intro nt op acts ho
  obtain ⟨_, _, h1, h2⟩ := act_next s p (by omega)
  refine ends_err (step_err s p nt op acts true (by omega) (fun _ => by rw [h2]; decide) ?_)
  rcases hk with h | h <;> rw [h] <;> simp [takeS] <;> omega
set_option maxHeartbeats 1000000 in
theorem thing_deep (s : ByteArray) (p d : Nat) (w : World) (hd : ¬ d < 8) (hd' : d ≤ 8) (hs : s.size ≤ 1000) (hk : (act s p).kind = 4 ∨ (act s p).kind = 6) :
    Calls Tryz.prog 81 #[.string s, .int .i64 p, .int .i64 d] w fun e w' => Below w.heap.size w w' ∧ e = .returned (.tuple #[.agg #[.int .i64 0, .int .i64 0, .string ⟨#[]⟩, .slice none 0 0, .slice none 0 0, .bool false], .int .i64 0, .int .i64 p]) := by
  go_enter Tryz.func81, Tryz.ntmps81
  go_wp2
  refine bodyPost_ret (v := .tuple #[.agg #[.int .i64 0, .int .i64 0, .string ⟨#[]⟩, .slice none 0 0, .slice none 0 0, .bool false], .int .i64 0, .int .i64 p]) (by simp [results, Tryz.results81, go_sem]) rfl ⟨?_, rfl⟩
  exact ((Below.refl _ _).alloc (Nat.le_refl _) _).alloc (by simp) _
def ThingPost (s : ByteArray) (p d : Nat) (w : World) (e : Ending) (w' : World) : Prop :=
  (∃ (k at' : Int) (nm : ByteArray) (ta ea : Option Addr) (tn tc en ec : Nat) (two : Bool) (wr : Nat), e = .returned (.tuple #[.agg #[.int .i64 k, .int .i64 at', .string nm, .slice ta tn tc, .slice ea en ec, .bool two], .int .i64 0, .int .i64 wr]) ∧ EndsErr s p d wr) ∨
   (∃ (k : Int) (nm : ByteArray) (ta ea : Option Addr) (tn tc en ec : Nat) (two : Bool) (th el : Nds) (A : List Ak) (q : Nat), e = .returned (.tuple #[.agg #[.int .i64 k, .int .i64 p, .string nm, .slice ta tn tc, .slice ea en ec, .bool two], .int .i64 q, .int .i64 (-1)]) ∧
     Flat s d (.cons k p nm th el two .nil) p A q ∧ q ≤ s.size ∧ p < q ∧ Slc w' (rng w.heap.size w'.heap.size) 102 (.slice ta tn tc) th ∧ Slc w' (rng w.heap.size w'.heap.size) 102 (.slice ea en ec) el)
theorem Flat.le {s : ByteArray} {d p e : Nat} {a : Nds} {A : List Ak} (h : Flat s d a p A e) : p ≤ e := by
  induction h with
  | nil d p => omega
  | text h _ ih => omega
  | @hole d p e r A h _ ih => have := act_next s p (by omega); omega
  | @call d p e r A h _ ih => have := act_next s p (by omega); omega
  | @loop d p e e1 th r A1 A hd h k1 h1 _ ih1 ih => have := act_next s p (by omega); have := act_next s e1 (by omega); omega
  | @one d p e e1 th r A1 A hd h k1 h1 _ ih1 ih => have := act_next s p (by omega); have := act_next s e1 (by omega); omega
  | @two d p e e1 e2 th el r A1 A2 A hd h k1 h1 k2 h2 _ ih1 ih2 ih => have := act_next s p (by omega); have := act_next s e1 (by omega); have := act_next s e2 (by omega); omega
theorem take_open (nt : Nat) (op : List Int) (k : Int) (hk : k = 4 ∨ k = 6) (h : op.length < 8) : takeS true nt op k = some (true, nt, op ++ [k]) := by
  rcases hk with rfl | rfl <;> simp [takeS, h]
theorem err_in (s : ByteArray) (p d wr : Nat) (k : Int) (hk : (act s p).kind = k) (h46 : k = 4 ∨ k = 6) (hd : d < 8) (h : EndsErr s (act s p).next (d + 1) wr) : EndsErr s p d wr := by
  intro nt op acts ho
  have s1 := step_act s p nt op acts true nt (op ++ [k]) true (by omega) (by rw [hk]; exact take_open nt op k h46 (by omega))
  exact Ends.of (Reach.one s1) (h nt (op ++ [k]) _ (by simp [ho]))
theorem err_at (s : ByteArray) (q nt : Nat) (op : List Int) (acts : List Ak) (top : Int) (hne : (act s q).kind ≠ 0) (h : takeS true nt (op ++ [top]) (act s q).kind = none) : Ends s ⟨q, true, nt, op ++ [top], acts⟩ (.err q) := by
  obtain ⟨_, _, h1, h2⟩ := act_next s q hne
  exact ends_err (step_err s q nt (op ++ [top]) acts true (by omega) (fun _ => by rw [h2]; decide) h)
theorem err_term (s : ByteArray) (p d q : Nat) (k : Int) (th : Nds) (A : List Ak) (hk : (act s p).kind = k) (hd : d < 8) (hf : Flat s (d + 1) th (act s p).next A q)
    (h : (k = 6 ∧ ((act s q).kind = 5 ∨ (act s q).kind = 2)) ∨ (k = 4 ∧ (act s q).kind = 2)) : EndsErr s p d q := by
  intro nt op acts ho
  have s1 := step_act s p nt op acts true nt (op ++ [k]) true (by omega) (by rw [hk]; exact take_open nt op k (by omega) (by omega))
  refine Ends.of ((Reach.one s1).trans (hf.reach nt (op ++ [k]) _ (by simp [ho]))) (err_at s q nt op _ k (by omega) ?_)
  rcases h with ⟨rfl, h | h⟩ | ⟨rfl, h⟩ <;> rw [h] <;> simp [takeS]
theorem reach_else (s : ByteArray) (p d q nt : Nat) (op : List Int) (acts : List Ak) (th : Nds) (A : List Ak) (hk : (act s p).kind = 4) (hd : d < 8) (ho : op.length = d) (hf : Flat s (d + 1) th (act s p).next A q) (hq : (act s q).kind = 5) :
    ∃ acts', Reach s ⟨p, true, nt, op, acts⟩ ⟨(act s q).next, true, nt, op ++ [5], acts'⟩ := by
  have s1 := step_act s p nt op acts true nt (op ++ [4]) true (by omega) (by rw [hk]; exact take_open nt op 4 (.inl rfl) (by omega))
  have r1 := (Reach.one s1).trans (hf.reach nt (op ++ [4]) _ (by simp [ho]))
  have s2 := fun a => step_act s q nt (op ++ [4]) a true nt (op ++ [5]) true (by omega) (by rw [hq]; simp [takeS])
  exact ⟨_, r1.trans (Reach.one (s2 _))⟩
theorem err_in2 (s : ByteArray) (p d q wr : Nat) (th : Nds) (A : List Ak) (hk : (act s p).kind = 4) (hd : d < 8) (hf : Flat s (d + 1) th (act s p).next A q) (hq : (act s q).kind = 5) (h : EndsErr s (act s q).next (d + 1) wr) : EndsErr s p d wr := by
  intro nt op acts ho
  obtain ⟨a, r⟩ := reach_else s p d q nt op acts th A hk hd ho hf hq
  exact Ends.of r (h nt (op ++ [5]) _ (by simp [ho]))
theorem err_term2 (s : ByteArray) (p d q q2 : Nat) (th el : Nds) (A A2 : List Ak) (hk : (act s p).kind = 4) (hd : d < 8) (hf : Flat s (d + 1) th (act s p).next A q) (hq : (act s q).kind = 5) (hf2 : Flat s (d + 1) el (act s q).next A2 q2)
    (h : (act s q2).kind = 5 ∨ (act s q2).kind = 2) : EndsErr s p d q2 := by
  intro nt op acts ho
  obtain ⟨a, r⟩ := reach_else s p d q nt op acts th A hk hd ho hf hq
  refine Ends.of (r.trans (hf2.reach nt (op ++ [5]) _ (by simp [ho]))) (err_at s q2 nt op _ 5 (by omega) ?_)
  rcases h with h | h <;> rw [h] <;> simp [takeS]
theorem ra_lit (s : ByteArray) (p : Nat) (k m : Int) (h : (act s p).kind = k) (hm : sg k = m) : raOf s p = .returned (.tuple #[.int .u8 m, .string (act s p).name, .int .i64 ((act s p).next : Int)]) := by rw [raOf, h, hm]
theorem rng_mono {a b a' b' : Nat} (h1 : a' ≤ a) (h2 : b ≤ b') : ∀ k, rng a b k → rng a' b' k := fun k hk => ⟨by have := hk.1; omega, by have := hk.2; omega⟩
theorem set_far (w : World) (b j : Nat) (v : Value) (k : Nat) (h : k ≠ b) : (w.setCell ⟨b, j, none⟩ v).heap[k]? = w.heap[k]? := Below.heap_setCell w ⟨b, j, none⟩ v k h
theorem drewN_heap (w : World) (n : Nat) : (w.drewN n).heap = w.heap := by simp
set_option maxHeartbeats 8000000 in
theorem thing_loop (s : ByteArray) (p d : Nat) (w : World) (hd : d < 8) (hs : s.size ≤ 1000) (hk : (act s p).kind = 6) (hb : ∀ p', p < p' → p' ≤ s.size → BodyOK s p') :
    Calls Tryz.prog 81 #[.string s, .int .i64 p, .int .i64 d] w fun e w' => Below w.heap.size w w' ∧ ThingPost s p d w e w' := by
  obtain ⟨n1, n2, n3, n4⟩ := act_next s p (by omega)
  have HB := hidS hb
  have HK := hidS hk
  clear hb hk n4
  have Ha := hidS (c83 s)
  have HV := hidS (ra_lit s p 6 42 HK.out rfl)
  go_enter Tryz.func81, Tryz.ntmps81
  go_wp2_with fail
  refine (Ha.out p _ (by omega) (by omega)).mono ?_
  rintro e w1 ⟨rfl, n, hw1⟩
  rw [HV.out]
  have z1 : w1.heap.size = w.heap.size + 2 := by rw [hw1]; simp
  have k0 : w1.cell? ⟨w.heap.size + 1, 0, none⟩ = some (.int .i64 0) := by rw [hw1]; go_simp
  have kf0 : w1.frozen? ⟨w.heap.size + 1, 0, none⟩ = false := by rw [hw1]; go_simp
  have k1 : w1.cell? ⟨w.heap.size + 1, 1, none⟩ = some (.int .i64 0) := by rw [hw1]; go_simp
  have kf1 : w1.frozen? ⟨w.heap.size + 1, 1, none⟩ = false := by rw [hw1]; go_simp
  have k2 : w1.cell? ⟨w.heap.size + 1, 2, none⟩ = some (.string ⟨#[]⟩) := by rw [hw1]; go_simp
  have kf2 : w1.frozen? ⟨w.heap.size + 1, 2, none⟩ = false := by rw [hw1]; go_simp
  have k3 : w1.cell? ⟨w.heap.size + 1, 3, none⟩ = some (.slice none 0 0) := by rw [hw1]; go_simp
  have kf3 : w1.frozen? ⟨w.heap.size + 1, 3, none⟩ = false := by rw [hw1]; go_simp
  have k4 : w1.cell? ⟨w.heap.size + 1, 4, none⟩ = some (.slice none 0 0) := by rw [hw1]; go_simp
  have kf4 : w1.frozen? ⟨w.heap.size + 1, 4, none⟩ = false := by rw [hw1]; go_simp
  have k5 : w1.cell? ⟨w.heap.size + 1, 5, none⟩ = some (.bool false) := by rw [hw1]; go_simp
  have kf5 : w1.frozen? ⟨w.heap.size + 1, 5, none⟩ = false := by rw [hw1]; go_simp
  have r0 : w1.cell? ⟨w.heap.size, 0, none⟩ = some (.int .i64 0) := by rw [hw1]; go_simp
  have rf0 : w1.frozen? ⟨w.heap.size, 0, none⟩ = false := by rw [hw1]; go_simp
  have r1 : w1.cell? ⟨w.heap.size, 1, none⟩ = some (.int .i64 0) := by rw [hw1]; go_simp
  have rf1 : w1.frozen? ⟨w.heap.size, 1, none⟩ = false := by rw [hw1]; go_simp
  have r2 : w1.cell? ⟨w.heap.size, 2, none⟩ = some (.string ⟨#[]⟩) := by rw [hw1]; go_simp
  have rf2 : w1.frozen? ⟨w.heap.size, 2, none⟩ = false := by rw [hw1]; go_simp
  have r3 : w1.cell? ⟨w.heap.size, 3, none⟩ = some (.slice none 0 0) := by rw [hw1]; go_simp
  have rf3 : w1.frozen? ⟨w.heap.size, 3, none⟩ = false := by rw [hw1]; go_simp
  have r4 : w1.cell? ⟨w.heap.size, 4, none⟩ = some (.slice none 0 0) := by rw [hw1]; go_simp
  have rf4 : w1.frozen? ⟨w.heap.size, 4, none⟩ = false := by rw [hw1]; go_simp
  have r5 : w1.cell? ⟨w.heap.size, 5, none⟩ = some (.bool false) := by rw [hw1]; go_simp
  have rf5 : w1.frozen? ⟨w.heap.size, 5, none⟩ = false := by rw [hw1]; go_simp
  have B1 : Below w.heap.size w w1 := by rw [hw1]; exact below_drewN (((Below.refl _ _).alloc (Nat.le_refl _) _).alloc (by simp) _) n
  clear hw1
  go_wp2_with fail
  rw [show ((d : Int) + 1) = ((d + 1 : Nat) : Int) from by omega]
  refine ((HB.out (act s p).next (by omega) (by omega)) (d + 1) _ (by omega)).mono ?_
  rintro e w2 ⟨hb2, hor⟩
  have z2 : w.heap.size + 2 ≤ w2.heap.size := by have := hb2.size; simpa [z1] using this
  have x0 : w2.cell? ⟨w.heap.size + 1, 0, none⟩ = some (.int .i64 4) := (hb2.cell (p := ⟨w.heap.size + 1, 0, none⟩) (by simp [z1])).trans (by go_simp)
  have xf0 : w2.frozen? ⟨w.heap.size + 1, 0, none⟩ = false := (hb2.frozen (p := ⟨w.heap.size + 1, 0, none⟩) (by simp [z1])).trans (by go_simp)
  have x1 : w2.cell? ⟨w.heap.size + 1, 1, none⟩ = some (.int .i64 p) := (hb2.cell (p := ⟨w.heap.size + 1, 1, none⟩) (by simp [z1])).trans (by go_simp)
  have xf1 : w2.frozen? ⟨w.heap.size + 1, 1, none⟩ = false := (hb2.frozen (p := ⟨w.heap.size + 1, 1, none⟩) (by simp [z1])).trans (by go_simp)
  have x2 : w2.cell? ⟨w.heap.size + 1, 2, none⟩ = some (.string (act s p).name) := (hb2.cell (p := ⟨w.heap.size + 1, 2, none⟩) (by simp [z1])).trans (by go_simp)
  have xf2 : w2.frozen? ⟨w.heap.size + 1, 2, none⟩ = false := (hb2.frozen (p := ⟨w.heap.size + 1, 2, none⟩) (by simp [z1])).trans (by go_simp)
  have x3 : w2.cell? ⟨w.heap.size + 1, 3, none⟩ = some (.slice none 0 0) := (hb2.cell (p := ⟨w.heap.size + 1, 3, none⟩) (by simp [z1])).trans (by go_simp)
  have xf3 : w2.frozen? ⟨w.heap.size + 1, 3, none⟩ = false := (hb2.frozen (p := ⟨w.heap.size + 1, 3, none⟩) (by simp [z1])).trans (by go_simp)
  have x4 : w2.cell? ⟨w.heap.size + 1, 4, none⟩ = some (.slice none 0 0) := (hb2.cell (p := ⟨w.heap.size + 1, 4, none⟩) (by simp [z1])).trans (by go_simp)
  have xf4 : w2.frozen? ⟨w.heap.size + 1, 4, none⟩ = false := (hb2.frozen (p := ⟨w.heap.size + 1, 4, none⟩) (by simp [z1])).trans (by go_simp)
  have x5 : w2.cell? ⟨w.heap.size + 1, 5, none⟩ = some (.bool false) := (hb2.cell (p := ⟨w.heap.size + 1, 5, none⟩) (by simp [z1])).trans (by go_simp)
  have xf5 : w2.frozen? ⟨w.heap.size + 1, 5, none⟩ = false := (hb2.frozen (p := ⟨w.heap.size + 1, 5, none⟩) (by simp [z1])).trans (by go_simp)
  have y0 : w2.cell? ⟨w.heap.size, 0, none⟩ = some (.int .i64 0) := (hb2.cell (p := ⟨w.heap.size, 0, none⟩) (by simp [z1])).trans (by go_simp)
  have yf0 : w2.frozen? ⟨w.heap.size, 0, none⟩ = false := (hb2.frozen (p := ⟨w.heap.size, 0, none⟩) (by simp [z1])).trans (by go_simp)
  have y1 : w2.cell? ⟨w.heap.size, 1, none⟩ = some (.int .i64 0) := (hb2.cell (p := ⟨w.heap.size, 1, none⟩) (by simp [z1])).trans (by go_simp)
  have yf1 : w2.frozen? ⟨w.heap.size, 1, none⟩ = false := (hb2.frozen (p := ⟨w.heap.size, 1, none⟩) (by simp [z1])).trans (by go_simp)
  have y2 : w2.cell? ⟨w.heap.size, 2, none⟩ = some (.string ⟨#[]⟩) := (hb2.cell (p := ⟨w.heap.size, 2, none⟩) (by simp [z1])).trans (by go_simp)
  have yf2 : w2.frozen? ⟨w.heap.size, 2, none⟩ = false := (hb2.frozen (p := ⟨w.heap.size, 2, none⟩) (by simp [z1])).trans (by go_simp)
  have y3 : w2.cell? ⟨w.heap.size, 3, none⟩ = some (.slice none 0 0) := (hb2.cell (p := ⟨w.heap.size, 3, none⟩) (by simp [z1])).trans (by go_simp)
  have yf3 : w2.frozen? ⟨w.heap.size, 3, none⟩ = false := (hb2.frozen (p := ⟨w.heap.size, 3, none⟩) (by simp [z1])).trans (by go_simp)
  have y4 : w2.cell? ⟨w.heap.size, 4, none⟩ = some (.slice none 0 0) := (hb2.cell (p := ⟨w.heap.size, 4, none⟩) (by simp [z1])).trans (by go_simp)
  have yf4 : w2.frozen? ⟨w.heap.size, 4, none⟩ = false := (hb2.frozen (p := ⟨w.heap.size, 4, none⟩) (by simp [z1])).trans (by go_simp)
  have y5 : w2.cell? ⟨w.heap.size, 5, none⟩ = some (.bool false) := (hb2.cell (p := ⟨w.heap.size, 5, none⟩) (by simp [z1])).trans (by go_simp)
  have yf5 : w2.frozen? ⟨w.heap.size, 5, none⟩ = false := (hb2.frozen (p := ⟨w.heap.size, 5, none⟩) (by simp [z1])).trans (by go_simp)
  have B2 : Below w.heap.size w w2 := ((((((B1.setCell (by simp) _).setCell (by simp) _).setCell (by simp) _).setCell (by simp) _).setCell (by simp) _).setCell (by simp) _).trans (hb2.mono (by simp [z1]))
  rcases hor with ⟨wr, rfl, hE⟩ | ⟨ta, tn, tc, th, A, q, rfl, hF, hq, hT, hS⟩
  · have HE := hidS hE
    clear hE hb2 B1 k0 kf0 k1 kf1 k2 kf2 k3 kf3 k4 kf4 k5 kf5 r0 rf0 r1 rf1 r2 rf2 r3 rf3 r4 rf4 r5 rf5
    go_wp2
    refine bodyPost_ret (v := .tuple #[.agg #[.int .i64 4, .int .i64 p, .string (act s p).name, .slice none 0 0, .slice none 0 0, .bool false], .int .i64 0, .int .i64 wr]) (by simp [results, Tryz.results81, go_sem, y0, y1, y2, y3, y4, y5]) rfl ⟨?_, ?_⟩
    · exact ((((((B2.setCell (Nat.le_refl _) _).setCell (Nat.le_refl _) _).setCell (Nat.le_refl _) _).setCell (Nat.le_refl _) _).setCell (Nat.le_refl _) _).setCell (Nat.le_refl _) _)
    · exact .inl ⟨_, _, _, _, _, _, _, _, _, _, wr, rfl, err_in s p d wr 6 HK.out (by omega) hd HE.out⟩
  · have HS2 : Hid (Slc w2 (rng (w.heap.size + 2) w2.heap.size) 102 (.slice ta tn tc) th) := by
      have := hS
      simp only [World.size_setCell, z1] at this
      exact this
    have HF := hidS hF
    have HT := hidS hT
    clear hS hF hT hb2 B1 k0 kf0 k1 kf1 k2 kf2 k3 kf3 k4 kf4 k5 kf5 r0 rf0 r1 rf1 r2 rf2 r3 rf3 r4 rf4 r5 rf5
    go_wp2_with fail
    refine (Ha.out q _ (by omega) (by omega)).mono ?_
    rintro e w3 ⟨rfl, n3, hw3⟩
    have z3 : w3.heap.size = w2.heap.size := by rw [hw3]; simp
    have u0 : w3.cell? ⟨w.heap.size + 1, 0, none⟩ = some (.int .i64 4) := by rw [hw3]; go_simp
    have uf0 : w3.frozen? ⟨w.heap.size + 1, 0, none⟩ = false := by rw [hw3]; go_simp
    have u1 : w3.cell? ⟨w.heap.size + 1, 1, none⟩ = some (.int .i64 p) := by rw [hw3]; go_simp
    have uf1 : w3.frozen? ⟨w.heap.size + 1, 1, none⟩ = false := by rw [hw3]; go_simp
    have u2 : w3.cell? ⟨w.heap.size + 1, 2, none⟩ = some (.string (act s p).name) := by rw [hw3]; go_simp
    have uf2 : w3.frozen? ⟨w.heap.size + 1, 2, none⟩ = false := by rw [hw3]; go_simp
    have u3 : w3.cell? ⟨w.heap.size + 1, 3, none⟩ = some (.slice ta tn tc) := by rw [hw3]; go_simp
    have uf3 : w3.frozen? ⟨w.heap.size + 1, 3, none⟩ = false := by rw [hw3]; go_simp
    have u4 : w3.cell? ⟨w.heap.size + 1, 4, none⟩ = some (.slice none 0 0) := by rw [hw3]; go_simp
    have uf4 : w3.frozen? ⟨w.heap.size + 1, 4, none⟩ = false := by rw [hw3]; go_simp
    have u5 : w3.cell? ⟨w.heap.size + 1, 5, none⟩ = some (.bool false) := by rw [hw3]; go_simp
    have uf5 : w3.frozen? ⟨w.heap.size + 1, 5, none⟩ = false := by rw [hw3]; go_simp
    have v0 : w3.cell? ⟨w.heap.size, 0, none⟩ = some (.int .i64 0) := by rw [hw3]; go_simp
    have vf0 : w3.frozen? ⟨w.heap.size, 0, none⟩ = false := by rw [hw3]; go_simp
    have v1 : w3.cell? ⟨w.heap.size, 1, none⟩ = some (.int .i64 0) := by rw [hw3]; go_simp
    have vf1 : w3.frozen? ⟨w.heap.size, 1, none⟩ = false := by rw [hw3]; go_simp
    have v2 : w3.cell? ⟨w.heap.size, 2, none⟩ = some (.string ⟨#[]⟩) := by rw [hw3]; go_simp
    have vf2 : w3.frozen? ⟨w.heap.size, 2, none⟩ = false := by rw [hw3]; go_simp
    have v3 : w3.cell? ⟨w.heap.size, 3, none⟩ = some (.slice none 0 0) := by rw [hw3]; go_simp
    have vf3 : w3.frozen? ⟨w.heap.size, 3, none⟩ = false := by rw [hw3]; go_simp
    have v4 : w3.cell? ⟨w.heap.size, 4, none⟩ = some (.slice none 0 0) := by rw [hw3]; go_simp
    have vf4 : w3.frozen? ⟨w.heap.size, 4, none⟩ = false := by rw [hw3]; go_simp
    have v5 : w3.cell? ⟨w.heap.size, 5, none⟩ = some (.bool false) := by rw [hw3]; go_simp
    have vf5 : w3.frozen? ⟨w.heap.size, 5, none⟩ = false := by rw [hw3]; go_simp
    have B3 : Below w.heap.size w w3 := by rw [hw3]; exact below_drewN (B2.setCell (by simp) _) n3
    have HH3 : Hid (∀ k, k ≠ w.heap.size + 1 → w3.heap[k]? = w2.heap[k]?) := by
      intro k hk
      rw [hw3, drewN_heap]
      exact set_far w2 _ _ _ k hk
    clear hw3 B2 x0 xf0 x1 xf1 x2 xf2 x3 xf3 x4 xf4 x5 xf5 y0 yf0 y1 yf1 y2 yf2 y3 yf3 y4 yf4 y5 yf5
    have hz3 : w.heap.size + 2 ≤ w3.heap.size := by omega
    rcases HT.out with h2 | h5 | h7
    · rw [ra_lit s q 2 45 h2 rfl]
      have HE := hidS (err_term s p d q 6 th A HK.out hd HF.out (.inl ⟨rfl, .inr h2⟩))
      clear h2
      go_wp2
      refine bodyPost_ret (v := .tuple #[.agg #[.int .i64 4, .int .i64 p, .string (act s p).name, .slice ta tn tc, .slice none 0 0, .bool false], .int .i64 0, .int .i64 q]) (by simp [results, Tryz.results81, go_sem, v0, v1, v2, v3, v4, v5]) rfl ⟨((((((B3.setCell (Nat.le_refl _) _).setCell (Nat.le_refl _) _).setCell (Nat.le_refl _) _).setCell (Nat.le_refl _) _).setCell (Nat.le_refl _) _).setCell (Nat.le_refl _) _), ?_⟩
      exact .inl ⟨_, _, _, _, _, _, _, _, _, _, q, rfl, HE.out⟩
    · rw [ra_lit s q 5 58 h5 rfl]
      have HE := hidS (err_term s p d q 6 th A HK.out hd HF.out (.inl ⟨rfl, .inl h5⟩))
      clear h5
      go_wp2
      refine bodyPost_ret (v := .tuple #[.agg #[.int .i64 4, .int .i64 p, .string (act s p).name, .slice ta tn tc, .slice none 0 0, .bool false], .int .i64 0, .int .i64 q]) (by simp [results, Tryz.results81, go_sem, v0, v1, v2, v3, v4, v5]) rfl ⟨((((((B3.setCell (Nat.le_refl _) _).setCell (Nat.le_refl _) _).setCell (Nat.le_refl _) _).setCell (Nat.le_refl _) _).setCell (Nat.le_refl _) _).setCell (Nat.le_refl _) _), ?_⟩
      exact .inl ⟨_, _, _, _, _, _, _, _, _, _, q, rfl, HE.out⟩
    · rw [ra_lit s q 7 47 h7 rfl]
      have HE := hidS (Flat.loop hd HK.out HF.out h7 (Flat.nil d (act s q).next))
      obtain ⟨m1, m2, _, _⟩ := act_next s q (by omega)
      have HM : Hid ((act s p).next ≤ q) := HF.out.le
      clear h7
      go_wp2
      refine bodyPost_ret (v := .tuple #[.agg #[.int .i64 4, .int .i64 p, .string (act s p).name, .slice ta tn tc, .slice none 0 0, .bool false], .int .i64 (act s q).next, .int .i64 (-1)]) (by simp [results, Tryz.results81, go_sem, v0, v1, v2, v3, v4, v5]) rfl ⟨((((((B3.setCell (Nat.le_refl _) _).setCell (Nat.le_refl _) _).setCell (Nat.le_refl _) _).setCell (Nat.le_refl _) _).setCell (Nat.le_refl _) _).setCell (Nat.le_refl _) _), ?_⟩
      have hm := HM.out
      refine .inr ⟨4, _, ta, none, tn, tc, 0, 0, false, th, .nil, _, (act s q).next, rfl, HE.out, m2, by omega, ?_, Slc.nil _ _ _⟩
      refine HS2.out.mono (fun k hk => ?_) (rng_mono (by omega) (by simp; omega))
      have h1 := hk.1
      rw [set_far _ _ _ _ k (by omega), set_far _ _ _ _ k (by omega), set_far _ _ _ _ k (by omega), set_far _ _ _ _ k (by omega), set_far _ _ _ _ k (by omega), set_far _ _ _ _ k (by omega), HH3.out k (by omega)]
set_option maxHeartbeats 8000000 in
theorem thing_choice (s : ByteArray) (p d : Nat) (w : World) (hd : d < 8) (hs : s.size ≤ 1000) (hk : (act s p).kind = 4) (hb : ∀ p', p < p' → p' ≤ s.size → BodyOK s p') :
    Calls Tryz.prog 81 #[.string s, .int .i64 p, .int .i64 d] w fun e w' => Below w.heap.size w w' ∧ ThingPost s p d w e w' := by
  obtain ⟨n1, n2, n3, n4⟩ := act_next s p (by omega)
  have HB := hidS hb
  have HK := hidS hk
  clear hb hk n4
  have Ha := hidS (c83 s)
  have HV := hidS (ra_lit s p 4 63 HK.out rfl)
  go_enter Tryz.func81, Tryz.ntmps81
  go_wp2_with fail
  refine (Ha.out p _ (by omega) (by omega)).mono ?_
  rintro e w1 ⟨rfl, n, hw1⟩
  rw [HV.out]
  have z1 : w1.heap.size = w.heap.size + 2 := by rw [hw1]; simp
  have k0 : w1.cell? ⟨w.heap.size + 1, 0, none⟩ = some (.int .i64 0) := by rw [hw1]; go_simp
  have kf0 : w1.frozen? ⟨w.heap.size + 1, 0, none⟩ = false := by rw [hw1]; go_simp
  have k1 : w1.cell? ⟨w.heap.size + 1, 1, none⟩ = some (.int .i64 0) := by rw [hw1]; go_simp
  have kf1 : w1.frozen? ⟨w.heap.size + 1, 1, none⟩ = false := by rw [hw1]; go_simp
  have k2 : w1.cell? ⟨w.heap.size + 1, 2, none⟩ = some (.string ⟨#[]⟩) := by rw [hw1]; go_simp
  have kf2 : w1.frozen? ⟨w.heap.size + 1, 2, none⟩ = false := by rw [hw1]; go_simp
  have k3 : w1.cell? ⟨w.heap.size + 1, 3, none⟩ = some (.slice none 0 0) := by rw [hw1]; go_simp
  have kf3 : w1.frozen? ⟨w.heap.size + 1, 3, none⟩ = false := by rw [hw1]; go_simp
  have k4 : w1.cell? ⟨w.heap.size + 1, 4, none⟩ = some (.slice none 0 0) := by rw [hw1]; go_simp
  have kf4 : w1.frozen? ⟨w.heap.size + 1, 4, none⟩ = false := by rw [hw1]; go_simp
  have k5 : w1.cell? ⟨w.heap.size + 1, 5, none⟩ = some (.bool false) := by rw [hw1]; go_simp
  have kf5 : w1.frozen? ⟨w.heap.size + 1, 5, none⟩ = false := by rw [hw1]; go_simp
  have r0 : w1.cell? ⟨w.heap.size, 0, none⟩ = some (.int .i64 0) := by rw [hw1]; go_simp
  have rf0 : w1.frozen? ⟨w.heap.size, 0, none⟩ = false := by rw [hw1]; go_simp
  have r1 : w1.cell? ⟨w.heap.size, 1, none⟩ = some (.int .i64 0) := by rw [hw1]; go_simp
  have rf1 : w1.frozen? ⟨w.heap.size, 1, none⟩ = false := by rw [hw1]; go_simp
  have r2 : w1.cell? ⟨w.heap.size, 2, none⟩ = some (.string ⟨#[]⟩) := by rw [hw1]; go_simp
  have rf2 : w1.frozen? ⟨w.heap.size, 2, none⟩ = false := by rw [hw1]; go_simp
  have r3 : w1.cell? ⟨w.heap.size, 3, none⟩ = some (.slice none 0 0) := by rw [hw1]; go_simp
  have rf3 : w1.frozen? ⟨w.heap.size, 3, none⟩ = false := by rw [hw1]; go_simp
  have r4 : w1.cell? ⟨w.heap.size, 4, none⟩ = some (.slice none 0 0) := by rw [hw1]; go_simp
  have rf4 : w1.frozen? ⟨w.heap.size, 4, none⟩ = false := by rw [hw1]; go_simp
  have r5 : w1.cell? ⟨w.heap.size, 5, none⟩ = some (.bool false) := by rw [hw1]; go_simp
  have rf5 : w1.frozen? ⟨w.heap.size, 5, none⟩ = false := by rw [hw1]; go_simp
  have B1 : Below w.heap.size w w1 := by rw [hw1]; exact below_drewN (((Below.refl _ _).alloc (Nat.le_refl _) _).alloc (by simp) _) n
  clear hw1
  go_wp2_with fail
  rw [show ((d : Int) + 1) = ((d + 1 : Nat) : Int) from by omega]
  refine ((HB.out (act s p).next (by omega) (by omega)) (d + 1) _ (by omega)).mono ?_
  rintro e w2 ⟨hb2, hor⟩
  have z2 : w.heap.size + 2 ≤ w2.heap.size := by have := hb2.size; simpa [z1] using this
  have x0 : w2.cell? ⟨w.heap.size + 1, 0, none⟩ = some (.int .i64 3) := (hb2.cell (p := ⟨w.heap.size + 1, 0, none⟩) (by simp [z1])).trans (by go_simp)
  have xf0 : w2.frozen? ⟨w.heap.size + 1, 0, none⟩ = false := (hb2.frozen (p := ⟨w.heap.size + 1, 0, none⟩) (by simp [z1])).trans (by go_simp)
  have x1 : w2.cell? ⟨w.heap.size + 1, 1, none⟩ = some (.int .i64 p) := (hb2.cell (p := ⟨w.heap.size + 1, 1, none⟩) (by simp [z1])).trans (by go_simp)
  have xf1 : w2.frozen? ⟨w.heap.size + 1, 1, none⟩ = false := (hb2.frozen (p := ⟨w.heap.size + 1, 1, none⟩) (by simp [z1])).trans (by go_simp)
  have x2 : w2.cell? ⟨w.heap.size + 1, 2, none⟩ = some (.string (act s p).name) := (hb2.cell (p := ⟨w.heap.size + 1, 2, none⟩) (by simp [z1])).trans (by go_simp)
  have xf2 : w2.frozen? ⟨w.heap.size + 1, 2, none⟩ = false := (hb2.frozen (p := ⟨w.heap.size + 1, 2, none⟩) (by simp [z1])).trans (by go_simp)
  have x3 : w2.cell? ⟨w.heap.size + 1, 3, none⟩ = some (.slice none 0 0) := (hb2.cell (p := ⟨w.heap.size + 1, 3, none⟩) (by simp [z1])).trans (by go_simp)
  have xf3 : w2.frozen? ⟨w.heap.size + 1, 3, none⟩ = false := (hb2.frozen (p := ⟨w.heap.size + 1, 3, none⟩) (by simp [z1])).trans (by go_simp)
  have x4 : w2.cell? ⟨w.heap.size + 1, 4, none⟩ = some (.slice none 0 0) := (hb2.cell (p := ⟨w.heap.size + 1, 4, none⟩) (by simp [z1])).trans (by go_simp)
  have xf4 : w2.frozen? ⟨w.heap.size + 1, 4, none⟩ = false := (hb2.frozen (p := ⟨w.heap.size + 1, 4, none⟩) (by simp [z1])).trans (by go_simp)
  have x5 : w2.cell? ⟨w.heap.size + 1, 5, none⟩ = some (.bool false) := (hb2.cell (p := ⟨w.heap.size + 1, 5, none⟩) (by simp [z1])).trans (by go_simp)
  have xf5 : w2.frozen? ⟨w.heap.size + 1, 5, none⟩ = false := (hb2.frozen (p := ⟨w.heap.size + 1, 5, none⟩) (by simp [z1])).trans (by go_simp)
  have y0 : w2.cell? ⟨w.heap.size, 0, none⟩ = some (.int .i64 0) := (hb2.cell (p := ⟨w.heap.size, 0, none⟩) (by simp [z1])).trans (by go_simp)
  have yf0 : w2.frozen? ⟨w.heap.size, 0, none⟩ = false := (hb2.frozen (p := ⟨w.heap.size, 0, none⟩) (by simp [z1])).trans (by go_simp)
  have y1 : w2.cell? ⟨w.heap.size, 1, none⟩ = some (.int .i64 0) := (hb2.cell (p := ⟨w.heap.size, 1, none⟩) (by simp [z1])).trans (by go_simp)
  have yf1 : w2.frozen? ⟨w.heap.size, 1, none⟩ = false := (hb2.frozen (p := ⟨w.heap.size, 1, none⟩) (by simp [z1])).trans (by go_simp)
  have y2 : w2.cell? ⟨w.heap.size, 2, none⟩ = some (.string ⟨#[]⟩) := (hb2.cell (p := ⟨w.heap.size, 2, none⟩) (by simp [z1])).trans (by go_simp)
  have yf2 : w2.frozen? ⟨w.heap.size, 2, none⟩ = false := (hb2.frozen (p := ⟨w.heap.size, 2, none⟩) (by simp [z1])).trans (by go_simp)
  have y3 : w2.cell? ⟨w.heap.size, 3, none⟩ = some (.slice none 0 0) := (hb2.cell (p := ⟨w.heap.size, 3, none⟩) (by simp [z1])).trans (by go_simp)
  have yf3 : w2.frozen? ⟨w.heap.size, 3, none⟩ = false := (hb2.frozen (p := ⟨w.heap.size, 3, none⟩) (by simp [z1])).trans (by go_simp)
  have y4 : w2.cell? ⟨w.heap.size, 4, none⟩ = some (.slice none 0 0) := (hb2.cell (p := ⟨w.heap.size, 4, none⟩) (by simp [z1])).trans (by go_simp)
  have yf4 : w2.frozen? ⟨w.heap.size, 4, none⟩ = false := (hb2.frozen (p := ⟨w.heap.size, 4, none⟩) (by simp [z1])).trans (by go_simp)
  have y5 : w2.cell? ⟨w.heap.size, 5, none⟩ = some (.bool false) := (hb2.cell (p := ⟨w.heap.size, 5, none⟩) (by simp [z1])).trans (by go_simp)
  have yf5 : w2.frozen? ⟨w.heap.size, 5, none⟩ = false := (hb2.frozen (p := ⟨w.heap.size, 5, none⟩) (by simp [z1])).trans (by go_simp)
  have B2 : Below w.heap.size w w2 := (((((((B1.setCell (by simp) _).setCell (by simp) _).setCell (by simp) _).setCell (by simp) _).setCell (by simp) _).setCell (by simp) _).setCell (by simp) _).trans (hb2.mono (by simp [z1]))
  rcases hor with ⟨wr, rfl, hE⟩ | ⟨ta, tn, tc, th, A, q, rfl, hF, hq, hT, hS⟩
  · have HE := hidS hE
    clear hE hb2 B1 k0 kf0 k1 kf1 k2 kf2 k3 kf3 k4 kf4 k5 kf5 r0 rf0 r1 rf1 r2 rf2 r3 rf3 r4 rf4 r5 rf5
    go_wp2
    refine bodyPost_ret (v := .tuple #[.agg #[.int .i64 3, .int .i64 p, .string (act s p).name, .slice none 0 0, .slice none 0 0, .bool false], .int .i64 0, .int .i64 wr]) (by simp [results, Tryz.results81, go_sem, y0, y1, y2, y3, y4, y5]) rfl ⟨?_, ?_⟩
    · exact ((((((B2.setCell (Nat.le_refl _) _).setCell (Nat.le_refl _) _).setCell (Nat.le_refl _) _).setCell (Nat.le_refl _) _).setCell (Nat.le_refl _) _).setCell (Nat.le_refl _) _)
    · exact .inl ⟨_, _, _, _, _, _, _, _, _, _, wr, rfl, err_in s p d wr 4 HK.out (by omega) hd HE.out⟩
  · have HS2 : Hid (Slc w2 (rng (w.heap.size + 2) w2.heap.size) 102 (.slice ta tn tc) th) := by
      have := hS
      simp only [World.size_setCell, z1] at this
      exact this
    have HF := hidS hF
    have HT := hidS hT
    clear hS hF hT hb2 B1 k0 kf0 k1 kf1 k2 kf2 k3 kf3 k4 kf4 k5 kf5 r0 rf0 r1 rf1 r2 rf2 r3 rf3 r4 rf4 r5 rf5
    go_wp2_with fail
    refine (Ha.out q _ (by omega) (by omega)).mono ?_
    rintro e w3 ⟨rfl, n3, hw3⟩
    have z3 : w3.heap.size = w2.heap.size := by rw [hw3]; simp
    have u0 : w3.cell? ⟨w.heap.size + 1, 0, none⟩ = some (.int .i64 3) := by rw [hw3]; go_simp
    have uf0 : w3.frozen? ⟨w.heap.size + 1, 0, none⟩ = false := by rw [hw3]; go_simp
    have u1 : w3.cell? ⟨w.heap.size + 1, 1, none⟩ = some (.int .i64 p) := by rw [hw3]; go_simp
    have uf1 : w3.frozen? ⟨w.heap.size + 1, 1, none⟩ = false := by rw [hw3]; go_simp
    have u2 : w3.cell? ⟨w.heap.size + 1, 2, none⟩ = some (.string (act s p).name) := by rw [hw3]; go_simp
    have uf2 : w3.frozen? ⟨w.heap.size + 1, 2, none⟩ = false := by rw [hw3]; go_simp
    have u3 : w3.cell? ⟨w.heap.size + 1, 3, none⟩ = some (.slice ta tn tc) := by rw [hw3]; go_simp
    have uf3 : w3.frozen? ⟨w.heap.size + 1, 3, none⟩ = false := by rw [hw3]; go_simp
    have u4 : w3.cell? ⟨w.heap.size + 1, 4, none⟩ = some (.slice none 0 0) := by rw [hw3]; go_simp
    have uf4 : w3.frozen? ⟨w.heap.size + 1, 4, none⟩ = false := by rw [hw3]; go_simp
    have u5 : w3.cell? ⟨w.heap.size + 1, 5, none⟩ = some (.bool false) := by rw [hw3]; go_simp
    have uf5 : w3.frozen? ⟨w.heap.size + 1, 5, none⟩ = false := by rw [hw3]; go_simp
    have v0 : w3.cell? ⟨w.heap.size, 0, none⟩ = some (.int .i64 0) := by rw [hw3]; go_simp
    have vf0 : w3.frozen? ⟨w.heap.size, 0, none⟩ = false := by rw [hw3]; go_simp
    have v1 : w3.cell? ⟨w.heap.size, 1, none⟩ = some (.int .i64 0) := by rw [hw3]; go_simp
    have vf1 : w3.frozen? ⟨w.heap.size, 1, none⟩ = false := by rw [hw3]; go_simp
    have v2 : w3.cell? ⟨w.heap.size, 2, none⟩ = some (.string ⟨#[]⟩) := by rw [hw3]; go_simp
    have vf2 : w3.frozen? ⟨w.heap.size, 2, none⟩ = false := by rw [hw3]; go_simp
    have v3 : w3.cell? ⟨w.heap.size, 3, none⟩ = some (.slice none 0 0) := by rw [hw3]; go_simp
    have vf3 : w3.frozen? ⟨w.heap.size, 3, none⟩ = false := by rw [hw3]; go_simp
    have v4 : w3.cell? ⟨w.heap.size, 4, none⟩ = some (.slice none 0 0) := by rw [hw3]; go_simp
    have vf4 : w3.frozen? ⟨w.heap.size, 4, none⟩ = false := by rw [hw3]; go_simp
    have v5 : w3.cell? ⟨w.heap.size, 5, none⟩ = some (.bool false) := by rw [hw3]; go_simp
    have vf5 : w3.frozen? ⟨w.heap.size, 5, none⟩ = false := by rw [hw3]; go_simp
    have B3 : Below w.heap.size w w3 := by rw [hw3]; exact below_drewN (B2.setCell (by simp) _) n3
    have HH3 : Hid (∀ k, k ≠ w.heap.size + 1 → w3.heap[k]? = w2.heap[k]?) := by
      intro k hk
      rw [hw3, drewN_heap]
      exact set_far w2 _ _ _ k hk
    clear hw3 B2 x0 xf0 x1 xf1 x2 xf2 x3 xf3 x4 xf4 x5 xf5 y0 yf0 y1 yf1 y2 yf2 y3 yf3 y4 yf4 y5 yf5
    have hz3 : w.heap.size + 2 ≤ w3.heap.size := by omega
    rcases HT.out with h2 | h5 | h7
    · rw [ra_lit s q 2 45 h2 rfl]
      have HE := hidS (err_term s p d q 4 th A HK.out hd HF.out (.inr ⟨rfl, h2⟩))
      clear h2
      go_wp2
      refine bodyPost_ret (v := .tuple #[.agg #[.int .i64 3, .int .i64 p, .string (act s p).name, .slice ta tn tc, .slice none 0 0, .bool false], .int .i64 0, .int .i64 q]) (by simp [results, Tryz.results81, go_sem, v0, v1, v2, v3, v4, v5]) rfl ⟨((((((B3.setCell (Nat.le_refl _) _).setCell (Nat.le_refl _) _).setCell (Nat.le_refl _) _).setCell (Nat.le_refl _) _).setCell (Nat.le_refl _) _).setCell (Nat.le_refl _) _), ?_⟩
      exact .inl ⟨_, _, _, _, _, _, _, _, _, _, q, rfl, HE.out⟩
    · rw [ra_lit s q 5 58 h5 rfl]
      obtain ⟨m1, m2, _, _⟩ := act_next s q (by omega)
      have H5 := hidS h5
      have HM : Hid ((act s p).next ≤ q) := HF.out.le
      have hm' : p < (act s q).next := by have := HM.out; omega
      clear h5
      go_wp2_with fail
      rw [show ((d : Int) + 1) = ((d + 1 : Nat) : Int) from by omega]
      refine ((HB.out (act s q).next (by omega) (by omega)) (d + 1) _ (by omega)).mono ?_
      rintro e w4 ⟨hb4, hor4⟩
      have z4 := hb4.size
      have s0 : w4.cell? ⟨w.heap.size + 1, 0, none⟩ = some (.int .i64 3) := (hb4.cell (p := ⟨w.heap.size + 1, 0, none⟩) (by simp; omega)).trans u0
      have sf0 : w4.frozen? ⟨w.heap.size + 1, 0, none⟩ = false := (hb4.frozen (p := ⟨w.heap.size + 1, 0, none⟩) (by simp; omega)).trans uf0
      have s1 : w4.cell? ⟨w.heap.size + 1, 1, none⟩ = some (.int .i64 p) := (hb4.cell (p := ⟨w.heap.size + 1, 1, none⟩) (by simp; omega)).trans u1
      have sf1 : w4.frozen? ⟨w.heap.size + 1, 1, none⟩ = false := (hb4.frozen (p := ⟨w.heap.size + 1, 1, none⟩) (by simp; omega)).trans uf1
      have s2 : w4.cell? ⟨w.heap.size + 1, 2, none⟩ = some (.string (act s p).name) := (hb4.cell (p := ⟨w.heap.size + 1, 2, none⟩) (by simp; omega)).trans u2
      have sf2 : w4.frozen? ⟨w.heap.size + 1, 2, none⟩ = false := (hb4.frozen (p := ⟨w.heap.size + 1, 2, none⟩) (by simp; omega)).trans uf2
      have s3 : w4.cell? ⟨w.heap.size + 1, 3, none⟩ = some (.slice ta tn tc) := (hb4.cell (p := ⟨w.heap.size + 1, 3, none⟩) (by simp; omega)).trans u3
      have sf3 : w4.frozen? ⟨w.heap.size + 1, 3, none⟩ = false := (hb4.frozen (p := ⟨w.heap.size + 1, 3, none⟩) (by simp; omega)).trans uf3
      have s4 : w4.cell? ⟨w.heap.size + 1, 4, none⟩ = some (.slice none 0 0) := (hb4.cell (p := ⟨w.heap.size + 1, 4, none⟩) (by simp; omega)).trans u4
      have sf4 : w4.frozen? ⟨w.heap.size + 1, 4, none⟩ = false := (hb4.frozen (p := ⟨w.heap.size + 1, 4, none⟩) (by simp; omega)).trans uf4
      have s5 : w4.cell? ⟨w.heap.size + 1, 5, none⟩ = some (.bool false) := (hb4.cell (p := ⟨w.heap.size + 1, 5, none⟩) (by simp; omega)).trans u5
      have sf5 : w4.frozen? ⟨w.heap.size + 1, 5, none⟩ = false := (hb4.frozen (p := ⟨w.heap.size + 1, 5, none⟩) (by simp; omega)).trans uf5
      have t0 : w4.cell? ⟨w.heap.size, 0, none⟩ = some (.int .i64 0) := (hb4.cell (p := ⟨w.heap.size, 0, none⟩) (by simp; omega)).trans v0
      have tf0 : w4.frozen? ⟨w.heap.size, 0, none⟩ = false := (hb4.frozen (p := ⟨w.heap.size, 0, none⟩) (by simp; omega)).trans vf0
      have t1 : w4.cell? ⟨w.heap.size, 1, none⟩ = some (.int .i64 0) := (hb4.cell (p := ⟨w.heap.size, 1, none⟩) (by simp; omega)).trans v1
      have tf1 : w4.frozen? ⟨w.heap.size, 1, none⟩ = false := (hb4.frozen (p := ⟨w.heap.size, 1, none⟩) (by simp; omega)).trans vf1
      have t2 : w4.cell? ⟨w.heap.size, 2, none⟩ = some (.string ⟨#[]⟩) := (hb4.cell (p := ⟨w.heap.size, 2, none⟩) (by simp; omega)).trans v2
      have tf2 : w4.frozen? ⟨w.heap.size, 2, none⟩ = false := (hb4.frozen (p := ⟨w.heap.size, 2, none⟩) (by simp; omega)).trans vf2
      have t3 : w4.cell? ⟨w.heap.size, 3, none⟩ = some (.slice none 0 0) := (hb4.cell (p := ⟨w.heap.size, 3, none⟩) (by simp; omega)).trans v3
      have tf3 : w4.frozen? ⟨w.heap.size, 3, none⟩ = false := (hb4.frozen (p := ⟨w.heap.size, 3, none⟩) (by simp; omega)).trans vf3
      have t4 : w4.cell? ⟨w.heap.size, 4, none⟩ = some (.slice none 0 0) := (hb4.cell (p := ⟨w.heap.size, 4, none⟩) (by simp; omega)).trans v4
      have tf4 : w4.frozen? ⟨w.heap.size, 4, none⟩ = false := (hb4.frozen (p := ⟨w.heap.size, 4, none⟩) (by simp; omega)).trans vf4
      have t5 : w4.cell? ⟨w.heap.size, 5, none⟩ = some (.bool false) := (hb4.cell (p := ⟨w.heap.size, 5, none⟩) (by simp; omega)).trans v5
      have tf5 : w4.frozen? ⟨w.heap.size, 5, none⟩ = false := (hb4.frozen (p := ⟨w.heap.size, 5, none⟩) (by simp; omega)).trans vf5
      have B4 : Below w.heap.size w w4 := B3.trans (hb4.mono (by omega))
      have HH4 : Hid (∀ k, k ≠ w.heap.size + 1 → k < w2.heap.size → w4.heap[k]? = w2.heap[k]?) := by
        intro k hk h'
        rw [hb4.block k (by omega), HH3.out k hk]
      rcases hor4 with ⟨wr, rfl, hE⟩ | ⟨ea, en, ec, el, A2, q2, rfl, hF2, hq2, hT2, hS2⟩
      · have HE := hidS (err_in2 s p d q wr th A HK.out hd HF.out H5.out hE)
        clear hE hb4 B3 u0 uf0 u1 uf1 u2 uf2 u3 uf3 u4 uf4 u5 uf5 v0 vf0 v1 vf1 v2 vf2 v3 vf3 v4 vf4 v5 vf5
        go_wp2
        refine bodyPost_ret (v := .tuple #[.agg #[.int .i64 3, .int .i64 p, .string (act s p).name, .slice ta tn tc, .slice none 0 0, .bool false], .int .i64 0, .int .i64 wr]) (by simp [results, Tryz.results81, go_sem, t0, t1, t2, t3, t4, t5]) rfl ⟨((((((B4.setCell (Nat.le_refl _) _).setCell (Nat.le_refl _) _).setCell (Nat.le_refl _) _).setCell (Nat.le_refl _) _).setCell (Nat.le_refl _) _).setCell (Nat.le_refl _) _), ?_⟩
        exact .inl ⟨_, _, _, _, _, _, _, _, _, _, wr, rfl, HE.out⟩
      · have HF2 := hidS hF2
        have HT2 := hidS hT2
        have HS4 : Hid (Slc w4 (rng w3.heap.size w4.heap.size) 102 (.slice ea en ec) el) := hS2
        clear hS2 hF2 hT2 hb4 B3 u0 uf0 u1 uf1 u2 uf2 u3 uf3 u4 uf4 u5 uf5 v0 vf0 v1 vf1 v2 vf2 v3 vf3 v4 vf4 v5 vf5
        go_wp2_with fail
        refine (Ha.out q2 _ (by omega) (by omega)).mono ?_
        rintro e w5 ⟨rfl, n5, hw5⟩
        have z5 : w5.heap.size = w4.heap.size := by rw [hw5]; simp
        have i0 : w5.cell? ⟨w.heap.size + 1, 0, none⟩ = some (.int .i64 3) := by rw [hw5]; go_simp
        have if0 : w5.frozen? ⟨w.heap.size + 1, 0, none⟩ = false := by rw [hw5]; go_simp
        have i1 : w5.cell? ⟨w.heap.size + 1, 1, none⟩ = some (.int .i64 p) := by rw [hw5]; go_simp
        have if1 : w5.frozen? ⟨w.heap.size + 1, 1, none⟩ = false := by rw [hw5]; go_simp
        have i2 : w5.cell? ⟨w.heap.size + 1, 2, none⟩ = some (.string (act s p).name) := by rw [hw5]; go_simp
        have if2 : w5.frozen? ⟨w.heap.size + 1, 2, none⟩ = false := by rw [hw5]; go_simp
        have i3 : w5.cell? ⟨w.heap.size + 1, 3, none⟩ = some (.slice ta tn tc) := by rw [hw5]; go_simp
        have if3 : w5.frozen? ⟨w.heap.size + 1, 3, none⟩ = false := by rw [hw5]; go_simp
        have i4 : w5.cell? ⟨w.heap.size + 1, 4, none⟩ = some (.slice ea en ec) := by rw [hw5]; go_simp
        have if4 : w5.frozen? ⟨w.heap.size + 1, 4, none⟩ = false := by rw [hw5]; go_simp
        have i5 : w5.cell? ⟨w.heap.size + 1, 5, none⟩ = some (.bool true) := by rw [hw5]; go_simp
        have if5 : w5.frozen? ⟨w.heap.size + 1, 5, none⟩ = false := by rw [hw5]; go_simp
        have j0 : w5.cell? ⟨w.heap.size, 0, none⟩ = some (.int .i64 0) := by rw [hw5]; go_simp
        have jf0 : w5.frozen? ⟨w.heap.size, 0, none⟩ = false := by rw [hw5]; go_simp
        have j1 : w5.cell? ⟨w.heap.size, 1, none⟩ = some (.int .i64 0) := by rw [hw5]; go_simp
        have jf1 : w5.frozen? ⟨w.heap.size, 1, none⟩ = false := by rw [hw5]; go_simp
        have j2 : w5.cell? ⟨w.heap.size, 2, none⟩ = some (.string ⟨#[]⟩) := by rw [hw5]; go_simp
        have jf2 : w5.frozen? ⟨w.heap.size, 2, none⟩ = false := by rw [hw5]; go_simp
        have j3 : w5.cell? ⟨w.heap.size, 3, none⟩ = some (.slice none 0 0) := by rw [hw5]; go_simp
        have jf3 : w5.frozen? ⟨w.heap.size, 3, none⟩ = false := by rw [hw5]; go_simp
        have j4 : w5.cell? ⟨w.heap.size, 4, none⟩ = some (.slice none 0 0) := by rw [hw5]; go_simp
        have jf4 : w5.frozen? ⟨w.heap.size, 4, none⟩ = false := by rw [hw5]; go_simp
        have j5 : w5.cell? ⟨w.heap.size, 5, none⟩ = some (.bool false) := by rw [hw5]; go_simp
        have jf5 : w5.frozen? ⟨w.heap.size, 5, none⟩ = false := by rw [hw5]; go_simp
        have B5 : Below w.heap.size w w5 := by rw [hw5]; exact below_drewN ((B4.setCell (by simp) _).setCell (by simp) _) n5
        have HH5 : Hid (∀ k, k ≠ w.heap.size + 1 → w5.heap[k]? = w4.heap[k]?) := by
          intro k hk
          rw [hw5, drewN_heap, set_far _ _ _ _ k hk, set_far _ _ _ _ k hk]
        clear hw5 B4 s0 sf0 s1 sf1 s2 sf2 s3 sf3 s4 sf4 s5 sf5 t0 tf0 t1 tf1 t2 tf2 t3 tf3 t4 tf4 t5 tf5
        rcases HT2.out with h2 | h5 | h7
        · rw [ra_lit s q2 2 45 h2 rfl]
          have HE := hidS (err_term2 s p d q q2 th el A A2 HK.out hd HF.out H5.out HF2.out (.inr h2))
          clear h2
          go_wp2
          refine bodyPost_ret (v := .tuple #[.agg #[.int .i64 3, .int .i64 p, .string (act s p).name, .slice ta tn tc, .slice ea en ec, .bool true], .int .i64 0, .int .i64 q2]) (by simp [results, Tryz.results81, go_sem, j0, j1, j2, j3, j4, j5]) rfl ⟨((((((B5.setCell (Nat.le_refl _) _).setCell (Nat.le_refl _) _).setCell (Nat.le_refl _) _).setCell (Nat.le_refl _) _).setCell (Nat.le_refl _) _).setCell (Nat.le_refl _) _), ?_⟩
          exact .inl ⟨_, _, _, _, _, _, _, _, _, _, q2, rfl, HE.out⟩
        · rw [ra_lit s q2 5 58 h5 rfl]
          have HE := hidS (err_term2 s p d q q2 th el A A2 HK.out hd HF.out H5.out HF2.out (.inl h5))
          clear h5
          go_wp2
          refine bodyPost_ret (v := .tuple #[.agg #[.int .i64 3, .int .i64 p, .string (act s p).name, .slice ta tn tc, .slice ea en ec, .bool true], .int .i64 0, .int .i64 q2]) (by simp [results, Tryz.results81, go_sem, j0, j1, j2, j3, j4, j5]) rfl ⟨((((((B5.setCell (Nat.le_refl _) _).setCell (Nat.le_refl _) _).setCell (Nat.le_refl _) _).setCell (Nat.le_refl _) _).setCell (Nat.le_refl _) _).setCell (Nat.le_refl _) _), ?_⟩
          exact .inl ⟨_, _, _, _, _, _, _, _, _, _, q2, rfl, HE.out⟩
        · rw [ra_lit s q2 7 47 h7 rfl]
          have HE := hidS (Flat.two hd HK.out HF.out H5.out HF2.out h7 (Flat.nil d (act s q2).next))
          obtain ⟨l1, l2, _, _⟩ := act_next s q2 (by omega)
          have HM2 : Hid ((act s q).next ≤ q2) := HF2.out.le
          clear h7
          go_wp2
          refine bodyPost_ret (v := .tuple #[.agg #[.int .i64 3, .int .i64 p, .string (act s p).name, .slice ta tn tc, .slice ea en ec, .bool true], .int .i64 (act s q2).next, .int .i64 (-1)]) (by simp [results, Tryz.results81, go_sem, j0, j1, j2, j3, j4, j5]) rfl ⟨((((((B5.setCell (Nat.le_refl _) _).setCell (Nat.le_refl _) _).setCell (Nat.le_refl _) _).setCell (Nat.le_refl _) _).setCell (Nat.le_refl _) _).setCell (Nat.le_refl _) _), ?_⟩
          have hm := HM.out
          have hm2 := HM2.out
          refine .inr ⟨3, _, ta, ea, tn, tc, en, ec, true, th, el, _, (act s q2).next, rfl, HE.out, l2, by omega, ?_, ?_⟩
          · refine HS2.out.mono (fun k hk => ?_) (rng_mono (by omega) (by simp; omega))
            have h1 := hk.1
            have h2 := hk.2
            rw [set_far _ _ _ _ k (by omega), set_far _ _ _ _ k (by omega), set_far _ _ _ _ k (by omega), set_far _ _ _ _ k (by omega), set_far _ _ _ _ k (by omega), set_far _ _ _ _ k (by omega), HH5.out k (by omega), HH4.out k (by omega) h2]
          · refine HS4.out.mono (fun k hk => ?_) (rng_mono (by omega) (by simp; omega))
            have h1 := hk.1
            rw [set_far _ _ _ _ k (by omega), set_far _ _ _ _ k (by omega), set_far _ _ _ _ k (by omega), set_far _ _ _ _ k (by omega), set_far _ _ _ _ k (by omega), set_far _ _ _ _ k (by omega), HH5.out k (by omega)]
    · rw [ra_lit s q 7 47 h7 rfl]
      have HE := hidS (Flat.one hd HK.out HF.out h7 (Flat.nil d (act s q).next))
      obtain ⟨m1, m2, _, _⟩ := act_next s q (by omega)
      have HM : Hid ((act s p).next ≤ q) := HF.out.le
      clear h7
      go_wp2
      refine bodyPost_ret (v := .tuple #[.agg #[.int .i64 3, .int .i64 p, .string (act s p).name, .slice ta tn tc, .slice none 0 0, .bool false], .int .i64 (act s q).next, .int .i64 (-1)]) (by simp [results, Tryz.results81, go_sem, v0, v1, v2, v3, v4, v5]) rfl ⟨((((((B3.setCell (Nat.le_refl _) _).setCell (Nat.le_refl _) _).setCell (Nat.le_refl _) _).setCell (Nat.le_refl _) _).setCell (Nat.le_refl _) _).setCell (Nat.le_refl _) _), ?_⟩
      have hm := HM.out
      refine .inr ⟨3, _, ta, none, tn, tc, 0, 0, false, th, .nil, _, (act s q).next, rfl, HE.out, m2, by omega, ?_, Slc.nil _ _ _⟩
      refine HS2.out.mono (fun k hk => ?_) (rng_mono (by omega) (by simp; omega))
      have h1 := hk.1
      rw [set_far _ _ _ _ k (by omega), set_far _ _ _ _ k (by omega), set_far _ _ _ _ k (by omega), set_far _ _ _ _ k (by omega), set_far _ _ _ _ k (by omega), set_far _ _ _ _ k (by omega), HH3.out k (by omega)]
theorem thing_ok (s : ByteArray) (p : Nat) (hs : s.size ≤ 1000) (hb : ∀ p', p < p' → p' ≤ s.size → BodyOK s p') : ThingOK s p := by
  intro d w hd hk
  by_cases h8 : d < 8
  · rcases hk with hk | hk
    · exact thing_choice s p d w h8 hs hk hb
    · exact thing_loop s p d w h8 hs hk hb
  · refine (thing_deep s p d w h8 hd hs hk).mono ?_
    rintro e w' ⟨h1, h2⟩
    exact ⟨h1, .inl ⟨_, _, _, _, _, _, _, _, _, _, p, h2, err_nest s p d h8 hk⟩⟩
end Go.Proofs.YtffkejkgkgfnhabGreat
