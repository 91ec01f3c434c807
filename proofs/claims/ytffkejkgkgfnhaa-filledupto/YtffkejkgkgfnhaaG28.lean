import Derived.Test.YtffkejkgkgfnhaaG27
import Derived.Test.YtffkejkgkgfnhaaG09
import Derived.Test.YtffkejkgkgfnhaaG25
import Derived.Deep.RegionHeld3
namespace Go.Proofs.Ytffkejkgkgfnhaa
open Go.RowKit
set_option linter.unusedVariables false
def Ris (A : List Ak) (n : Nat) : Prop := A.Pairwise (fun a b => a.at' < b.at') ∧ ∀ a ∈ A, a.at' < n
theorem takeS_kind {inb : Bool} {nt : Nat} {op : List Int} {k : Int} {r : Bool × Nat × List Int} (h : takeS inb nt op k = some r) : k ≠ 0 := by
  rintro rfl
  unfold takeS at h
  cases inb <;> simp at h
theorem ris_step {s : ByteArray} {c d : Cfg} (h : stepC s c = .go d) (hr : Ris c.acts c.p) (hp : c.p ≤ s.size) : Ris d.acts d.p ∧ d.p ≤ s.size := by
  unfold stepC at h
  split at h
  · rename_i hlt
    split at h
    · cases h
      exact ⟨⟨hr.1, fun a ha => by have := hr.2 a ha; show a.at' < c.p + 1; omega⟩, hlt⟩
    · split at h
      · cases h
      · rename_i i n o ht
        cases h
        obtain ⟨q1, q2, q3, _⟩ := act_next s c.p (takeS_kind ht)
        refine ⟨⟨?_, fun a ha => ?_⟩, q2⟩
        · rw [List.pairwise_append]
          refine ⟨hr.1, by simp, fun a ha b hb => ?_⟩
          simp at hb; subst hb
          exact hr.2 a ha
        · show a.at' < (act s c.p).next
          rcases List.mem_append.1 ha with ha | ha
          · have := hr.2 a ha; omega
          · simp at ha; subst ha; show c.p < _; omega
  · split at h <;> cases h
theorem ris_reach {s : ByteArray} {c d : Cfg} (h : Reach s c d) : Ris c.acts c.p → c.p ≤ s.size → Ris d.acts d.p ∧ d.p ≤ s.size := by
  induction h with
  | refl c => exact fun h k => ⟨h, k⟩
  | step h r ih => intro hr hp; obtain ⟨a, b⟩ := ris_step h hr hp; exact ih a b
theorem ris_ends {s : ByteArray} {A : List Ak} (h : Ends s init (.fin A)) : Ris A s.size := by
  obtain ⟨d, hr, hs, _⟩ := h
  obtain ⟨h1, h2⟩ := ris_reach hr ⟨by simp [init], fun a ha => by simp [init] at ha⟩ (Nat.zero_le _)
  unfold stepC at hs
  split at hs
  · split at hs
    · cases hs
    · split at hs <;> cases hs
  · split at hs
    · cases hs
    · cases hs
      exact ⟨h1.1, fun a ha => by have := h1.2 a ha; omega⟩
theorem ris_len {A : List Ak} {n : Nat} (h : Ris A n) : A.length ≤ n := by
  have e : (A.map (·.at')).length ≤ n := nodup_len n _ (by
    rw [List.pairwise_map]
    exact h.1.imp (fun q => by omega)) (fun x hx => by
    obtain ⟨a, ha, rfl⟩ := List.mem_map.1 hx
    exact h.2 a ha)
  simpa using e
def atA (A : List Ak) (i : Nat) : Nat := ((A[i]?).map (·.at')).getD 0
def usA (A : List Ak) (cm : Nat → Nat → Bool) (n : Nat) : List (Nat × Nat) := ((List.range n).filter fun k => cm (k / 24) (k % 24)).map fun k => (atA A (k / 24), k % 24)
theorem usA_len (A : List Ak) (cm : Nat → Nat → Bool) (n : Nat) : (usA A cm n).length ≤ n := by
  unfold usA
  rw [List.length_map]
  exact Nat.le_trans (List.length_filter_le _ _) (by simp)
theorem usA_succ (A : List Ak) (cm : Nat → Nat → Bool) (i c : Nat) (hi : i < A.length) (hc : c < 24) : usA A cm (i * 24 + c + 1) = if cm i c = true then usA A cm (i * 24 + c) ++ [(A[i].at', c)] else usA A cm (i * 24 + c) := by
  have e1 : (i * 24 + c) / 24 = i := by omega
  have e2 : (i * 24 + c) % 24 = c := by omega
  unfold usA
  rw [List.range_succ, List.filter_append, List.map_append]
  have e3 : atA A i = A[i].at' := by simp [atA, List.getElem?_eq_getElem hi]
  by_cases h : cm i c = true
  · rw [if_pos h]; simp [e1, e2, h, e3]
  · rw [if_neg h]; simp [e1, e2, h]
theorem usA_mem (A : List Ak) (cm : Nat → Nat → Bool) (p : Nat × Nat) : p ∈ usA A cm (A.length * 24) ↔ ∃ i a, A[i]? = some a ∧ p.2 < 24 ∧ p.1 = a.at' ∧ cm i p.2 = true := by
  unfold usA
  simp only [List.mem_map, List.mem_filter, List.mem_range]
  constructor
  · rintro ⟨k, ⟨h1, h2⟩, rfl⟩
    have hk : k / 24 < A.length := by omega
    refine ⟨k / 24, A[k / 24], List.getElem?_eq_getElem hk, Nat.mod_lt _ (by decide), ?_, h2⟩
    simp [atA, List.getElem?_eq_getElem hk]
  · rintro ⟨i, a, h1, h2, h3, h4⟩
    have hi := (List.getElem?_eq_some_iff.1 h1).1
    have e1 : (i * 24 + p.2) / 24 = i := by omega
    have e2 : (i * 24 + p.2) % 24 = p.2 := by omega
    refine ⟨i * 24 + p.2, ⟨by omega, by rw [e1, e2]; exact h4⟩, ?_⟩
    rw [e1, e2]
    simp [atA, h1, ← h3]
theorem usA_srt {A : List Ak} {n : Nat} (h : Ris A n) (cm : Nat → Nat → Bool) : ∀ m, m ≤ A.length * 24 → Srt (usA A cm m) := by
  intro m hm
  unfold usA Srt
  rw [List.pairwise_map]
  refine List.Pairwise.imp_of_mem ?_ ((List.pairwise_lt_range (n := m)).sublist List.filter_sublist)
  intro a b ha hb hab
  have ha' := (List.mem_filter.1 ha).1
  have hb' := (List.mem_filter.1 hb).1
  simp at ha' hb'
  have ia : a / 24 < A.length := by omega
  have ib : b / 24 < A.length := by omega
  have ea : atA A (a / 24) = A[a / 24].at' := by simp [atA, List.getElem?_eq_getElem ia]
  have eb : atA A (b / 24) = A[b / 24].at' := by simp [atA, List.getElem?_eq_getElem ib]
  rw [ea, eb]
  show A[a / 24].at' * 24 + a % 24 < A[b / 24].at' * 24 + b % 24
  by_cases e : a / 24 = b / 24
  · have : A[a / 24].at' = A[b / 24].at' := by congr 1; exact getElem_congr_idx e
    omega
  · have := List.pairwise_iff_getElem.1 h.1 (a / 24) (b / 24) ia ib (by omega)
    omega
theorem usA_list {s : ByteArray} {A : List Ak} {b0 : Nat} {ts : List Tm} {β : Nat → Nat} {t0 : Nat} (hG : Good s A b0 ts β t0) {n : Nat} (hr : Ris A n) {fs : FS} (h : RInv s A ts β t0 fs.gs.length fs) (hn : fs.grew = false) : ¬ TBad ts t0 ∧ UseList ts t0 (usA A fs.cm (A.length * 24)) := by
  obtain ⟨h1, h2⟩ := h.true' hG.plc hG.lt hn
  refine ⟨h1, usA_srt hr _ _ (Nat.le_refl _), fun p => ?_⟩
  rw [usA_mem]
  constructor
  · rintro ⟨i, a, q1, q2, q3, q4⟩
    obtain ⟨a', e1, e2⟩ := h.inv.i5 i p.2 q4
    rw [q1] at e1; cases e1
    exact ⟨q2, by rw [q3]; exact e2⟩
  · rintro ⟨q1, q2⟩
    obtain ⟨j, a, e1, e2, e3, _⟩ := (h2 _ _).1 q2
    exact ⟨j, a, e1, q1, e2.symm, e3⟩
def UsPost (A : List Ak) (cm : Nat → Nat → Bool) (w : World) (e : Ending) (w' : World) : Prop :=
  Below w.heap.size w w' ∧ ∃ a c, e = .returned (.slice a (usA A cm (A.length * 24)).length c) ∧ w'.ownsRow w.heap.size 47 2 (.slice a (usA A cm (A.length * 24)).length c) (usA A cm (A.length * 24)).length (useC (usA A cm (A.length * 24)))
set_option maxRecDepth 100000 in
set_option maxHeartbeats 4000000 in
theorem p74 (s : ByteArray) (A : List Ak) (w : World) (f : Fp) (ga : Option Addr) (gc : Nat) (fs : FS) (h : FkOK s A w f ga gc fs) :
    Calls Try.prog 40 #[.pointer (some ⟨f.F, 0, none⟩)] w fun e w' => UsPost A fs.cm w e w' := by
  obtain ⟨i0, hi, hz0, hz1, hz2x⟩ := info_parts infoUse
  have hA := h.la
  have c0 := h.c0
  have c2 := h.c2
  have l0 : f.F < w.heap.size := by have := h.l0; have := h.l3; omega
  have l1 : f.ag < w.heap.size := by have := h.l1; have := h.l3; omega
  have l2 : f.cg < w.heap.size := by have := h.l2; have := h.l3; omega
  have HK := hidS h
  clear h
  go_enter Try.func40, Try.ntmps40
  go_wp2
  go_loopw [3, 4, 5] (fun lv iv _ wr => ∃ (i : Nat) (oa : Option Addr) (oc : Nat), i ≤ A.length ∧ iv = .int .i64 i ∧ lv = .slice oa (usA A fs.cm (i * 24)).length oc ∧ Hid (wr.ownsRow w.heap.size 47 2 (.slice oa (usA A fs.cm (i * 24)).length oc) (usA A fs.cm (i * 24)).length (useC (usA A fs.cm (i * 24)))) ∧ Below w.heap.size w wr) (fun _ iv _ _ => A.length - (intOf iv).toNat)
  case atStart => exact ⟨0, none, 0, by omega, rfl, rfl, World.ownsRow_nil _ _ _ _, Below.refl _ _⟩
  case round =>
    obtain ⟨i, oa, oc, hi', rfl, rfl, HO, hbel⟩ := hrel
    have d0 : wr.cell? ⟨f.F, 0, none⟩ = some (.slice (some ⟨f.ag, 0, none⟩) A.length f.ac) := (hbel.cell (p := ⟨f.F, 0, none⟩) l0).trans c0
    have d2 : wr.cell? ⟨f.F, 2, none⟩ = some (.slice (some ⟨f.cg, 0, none⟩) A.length f.cc) := (hbel.cell (p := ⟨f.F, 2, none⟩) l0).trans c2
    by_cases hlt : i < A.length
    · generalize wr = w1 at *
      go_wp2
      go_loopw [3, 5] (fun lv cv wr => ∃ (c : Nat) (oa : Option Addr) (oc : Nat), c ≤ 24 ∧ cv = .int .i64 c ∧ lv = .slice oa (usA A fs.cm (i * 24 + c)).length oc ∧ Hid (wr.ownsRow w.heap.size 47 2 (.slice oa (usA A fs.cm (i * 24 + c)).length oc) (usA A fs.cm (i * 24 + c)).length (useC (usA A fs.cm (i * 24 + c)))) ∧ Below w.heap.size w wr) (fun _ cv _ => 24 - (intOf cv).toNat)
      case atStart => exact ⟨0, oa, oc, by omega, rfl, rfl, HO.out, hbel⟩
      case round =>
        clear d0 d2 HO hbel
        obtain ⟨c, oa, oc, hc', rfl, rfl, HO, hbel⟩ := hrel
        have d0 : wr.cell? ⟨f.F, 0, none⟩ = some (.slice (some ⟨f.ag, 0, none⟩) A.length f.ac) := (hbel.cell (p := ⟨f.F, 0, none⟩) l0).trans c0
        have d2 : wr.cell? ⟨f.F, 2, none⟩ = some (.slice (some ⟨f.cg, 0, none⟩) A.length f.cc) := (hbel.cell (p := ⟨f.F, 2, none⟩) l0).trans c2
        by_cases hlc : c < 24
        · have du : wr.cell? ⟨f.cg, i * 24 + c, none⟩ = some (.bool (fs.cm i c)) := (hbel.cell (p := ⟨f.cg, i * 24 + c, none⟩) l2).trans (HK.out.com i hlt c hlc).1
          have da : wr.cell? ⟨f.ag, i * 5 + 2, none⟩ = some (.int .i64 A[i].at') := (hbel.cell (p := ⟨f.ag, i * 5 + 2, none⟩) l1).trans (HK.out.act i hlt).2.2.1
          have HS := hidS (usA_succ A fs.cm i c hlt hlc)
          have hul := usA_len A fs.cm (i * 24 + c)
          have hbs := hbel.size
          have j1 : (0 : Int) ≤ (i : Int) := by omega
          have j2 : (i : Int) < (A.length : Int) := by omega
          have j3 : (c : Int) < 24 := by omega
          have j4 : (0 : Int) ≤ (c : Int) := by omega
          cases hu : fs.cm i c
          · rw [hu] at du
            have HSe : Hid (usA A fs.cm (i * 24 + c + 1) = usA A fs.cm (i * 24 + c)) := by show _ = _; rw [HS.out, if_neg (by rw [hu]; decide)]
            clear HS
            go_wp2
            exact ⟨⟨c + 1, oa, oc, by omega, by go_num, by rw [← Nat.add_assoc, HSe.out], by rw [← Nat.add_assoc, HSe.out]; exact HO.out, hbel⟩, by simp [intOf]; omega⟩
          · rw [hu] at du
            have HSe : Hid (usA A fs.cm (i * 24 + c + 1) = usA A fs.cm (i * 24 + c) ++ [(A[i].at', c)]) := by show _ = _; rw [HS.out, if_pos hu]
            clear HS hu
            generalize A[i].at' = AT at *
            generalize hLL : usA A fs.cm (i * 24 + c) = LL at *
            have hown := HO.out
            go_wp2_with (at_builtin; refine wpList_append_lies _ rfl _ _ 35 rfl w.heap.size 47 i0 (.agg #[.int .i64 0, .int .i64 0]) 2 16 Try.underlying35 hi hz0 hz1 hz2x rfl (by decide) _ _ _ rfl (hown.alloc _) ⟨wr.heap.size, 0, none⟩ 1 1 [.int .i64 AT, .int .i64 c] rfl rfl ?c1 ?c2 (by decide) ?c3 ?c4 ?c5 _ rfl ?_)
            case c1 => exact use_cells wr AT c
            case c2 => exact use_one _ _
            case c3 => unfold maxLen; omega
            case c4 => omega
            case c5 => simp; omega
            intro g cap w3 hown3 hg3 hat3 hlt3
            have hbel3 : Below w.heap.size w w3 := (hbel.alloc (by omega) _).grown hg3 (by simp; omega) (fun j hj => by have := (hown.lt j hj).1; omega)
            have HO3 : Hid (w3.ownsRow w.heap.size 47 2 (.slice (some ⟨g, 0, none⟩) (LL ++ [(AT, c)]).length cap) (LL ++ [(AT, c)]).length (useC (LL ++ [(AT, c)]))) := by
              show World.ownsRow _ _ _ _ _ _ _
              rw [List.length_append, useC, List.flatMap_append]
              simpa [useC] using hown3
            clear hown3 hg3 hat3 hown d0 d2 du da HO
            go_wp2
            exact ⟨⟨c + 1, some ⟨g, 0, none⟩, cap, by omega, by go_num, by rw [← Nat.add_assoc, HSe.out]; simp, by rw [← Nat.add_assoc, HSe.out]; exact HO3.out, hbel3⟩, by simp [intOf]; omega⟩
        · have e : c = 24 := by omega
          subst e
          have e2 : i * 24 + 24 = (i + 1) * 24 := by omega
          rw [e2] at HO
          rw [e2]
          go_wp2
          exact ⟨⟨i + 1, oa, oc, by omega, by go_num, rfl, HO.out, hbel⟩, by simp [intOf]; omega⟩
    · have e : i = A.length := by omega
      subst e
      go_wp2
      go_ret
      exact ⟨hbel, oa, oc, rfl, HO.out⟩
end Go.Proofs.Ytffkejkgkgfnhaa
namespace Go.Proofs.Ytffkejkgkgfnhaa
open Go.RowKit
set_option linter.unusedVariables false
def zV : Value := .agg (Array.replicate 24 (.bool false))
def zA (n : Nat) : Array Value := madeCells zV.cells (n * 24)
theorem infoArr : (Try.prog.info? 90).map (fun i => (i.zero, i.size, i.bytes)) = some (some zV, 24, 24) := by kernel_rfl
theorem make107 (w : World) (n : Nat) (hn : n ≤ 1000) : (Instr.makeSlice 72 (.int .i64 n) (.int .i64 n)).run Try.prog w = .ok (.slice (some ⟨w.heap.size, 0, none⟩) n n) (w.alloc (.cells (zA n) 90)) := by
  obtain ⟨i0, hi, hz0, hz1, hz2⟩ := info_parts infoArr
  have := run_make (P := Try.prog) w 72 90 i0 zV Try.underlying72 hi hz0 .i64 .i64 n n (by omega) (by omega) (by rw [hz2]; omega) (by omega)
  rw [hz1] at this
  simpa [zA] using this
theorem zA_at (n k : Nat) (h : k < n * 24) : (zA n)[k]? = some (.bool false) := by
  have e : zV.cells = Array.replicate 24 (.bool false) := by rfl
  have : k % 24 < 24 := Nat.mod_lt _ (by decide)
  unfold zA
  rw [e]
  simp [madeCells, h, this]
theorem tflat_ex (s : ByteArray) (A : List Ak) (hs : s.size ≤ 400) (hE : Ends s init (.fin A)) (w : World) : ∃ ts, TFlat s ts A s.size ∧ ts.length ≤ 6 := fin_flat hE
theorem fk0 (s : ByteArray) (A : List Ak) (w : World) (g ac : Nat) (Z0 : Array Value) (hA : A.length ≤ 1000) (hat : AkAt s w g A) (hg : g < w.heap.size) (hZ : ∀ k, k < A.length * 24 → Z0[k]? = some (.bool false)) :
    FkOK s A ((w.alloc (.cells Z0 90)).alloc (.cells #[.slice (some ⟨g, 0, none⟩) A.length ac, .slice none 0 0, .slice (some ⟨w.heap.size, 0, none⟩) A.length A.length, .bool false] 75)) ⟨w.heap.size + 1, g, ac, w.heap.size, A.length, w.heap.size + 2⟩ none 0 ⟨[], fun _ _ => false, false⟩ := by
  have s1 : (w.alloc (.cells Z0 90)).heap.size = w.heap.size + 1 := by simp
  have hF := heap_new (w.alloc (.cells Z0 90)) (.cells #[.slice (some ⟨g, 0, none⟩) A.length ac, .slice none 0 0, .slice (some ⟨w.heap.size, 0, none⟩) A.length A.length, .bool false] 75)
  rw [s1] at hF
  generalize hW : (w.alloc (.cells Z0 90)).alloc (.cells #[.slice (some ⟨g, 0, none⟩) A.length ac, .slice none 0 0, .slice (some ⟨w.heap.size, 0, none⟩) A.length A.length, .bool false] 75) = W at *
  have hC : W.heap[w.heap.size]? = some (.cells Z0 90) := by rw [← hW, Below.heap_alloc _ _ _ (by omega)]; exact heap_new _ _
  have hG : W.heap[g]? = w.heap[g]? := by rw [← hW, Below.heap_alloc _ _ _ (by omega), Below.heap_alloc _ _ _ hg]
  have hS : W.heap.size = w.heap.size + 2 := by rw [← hW]; simp
  have c := fun j => cell_of_heap (j := j) hF
  have f : ∀ {g : Nat} {cur : Array Value} {ty : Nat} (j : Nat), W.heap[g]? = some (.cells cur ty (0, 0)) → W.frozen? ⟨g, j, none⟩ = false := by
    intro g cur ty j h
    simp [World.frozen?, h]
  refine ⟨c 0, c 1, c 2, c 3, f 1 hF, f 3 hF, World.ownsRow_nil _ _ _ _, hat.far hG, fun i hi k hk => ⟨(cell_of_heap hC).trans (hZ _ (by omega)), f _ hC⟩, by show w.heap.size + 1 ≠ g; omega, by show w.heap.size + 1 ≠ w.heap.size; omega, by show g ≠ w.heap.size; omega, by show w.heap.size + 1 < w.heap.size + 2; omega, by show g < w.heap.size + 2; omega, by show w.heap.size < w.heap.size + 2; omega, by show w.heap.size + 2 ≤ W.heap.size; omega, hA⟩
theorem Fr.below {f : Fp} {w w' : World} {n : Nat} (h : Fr f w w') (h0 : n ≤ f.F) (h1 : n ≤ f.cg) (h2 : n ≤ f.B) : Below n w w' :=
  ⟨h.os, h.tape, h.output, h.size, fun k hk => h.block k (by omega) (by omega) (by omega)⟩
theorem good_of {s : ByteArray} {A : List Ak} (hs : s.size ≤ 400) (hun : unA (seenB (names A)) A < 0) (nm : ByteArray) (hhit : hitB nm A = true) (ts : List Tm) (hT : TFlat s ts A s.size) : ∃ β, Good s A (idxA nm A 0) ts β (tno ts nm) ∧ 0 ≤ fndF nm ts 0 := by
  obtain ⟨β, hβ⟩ := hT.places
  have e3 : hasF ts = seenB (names A) := funext hT.has
  have hf : 0 ≤ fndF nm ts 0 := by
    have : hasF ts nm = true := by rw [e3]; exact hhit
    simpa [hasF] using this
  have hw := hT.wf hs (by rw [hT.un ts, e3]; exact hun)
  have := fndF_range nm ts 0
  exact ⟨β, ⟨hβ, fun i hi => (hw i hi).1, by unfold tno; omega, (hβ.find nm hf).2.symm⟩, hf⟩
theorem miss_of {s : ByteArray} {A : List Ak} (nm : ByteArray) (hhit : hitB nm A = false) (ts : List Tm) (hT : TFlat s ts A s.size) : WSpec ts nm 4 [] := by
  have e3 : hasF ts = seenB (names A) := funext hT.has
  have : hasF ts nm = false := by rw [e3]; exact hhit
  refine .inl ⟨?_, rfl, rfl⟩
  simpa [hasF] using this
theorem pw_nil (s nm : ByteArray) (w w' : World) (x : Int) (h : PWalk s nm x []) : PWPost s nm w (.returned (.tuple #[.slice none 0 0, .int .i64 x])) w' :=
  ⟨none, 0, x, [], rfl, World.ownsRow_nil _ _ _ _, by simp, h⟩
set_option maxRecDepth 100000 in
set_option maxHeartbeats 4000000 in
theorem p48 : PWOK 30 := by
  intro s nm w hm
  have Hc := hidS (c33L s w hm)
  go_enter Try.func30, Try.ntmps30
  go_wp2_with fail
  refine Hc.out.mono ?_
  clear Hc
  rintro e w1 ⟨hb1, v, x, y, rfl, hk, hor⟩
  rcases hor with ⟨hx, rfl⟩ | ⟨rfl, g, ac, A, rfl, hs, hE, htw, hun, hat, hg1, hg2, hac, hacm, hA⟩
  · have HK : Hid (PWalk s nm x []) := .inl ⟨y, hk, hx, rfl⟩
    clear hk
    have hx2 : (x == 0) = false := by simp [hx]
    go_wp2
    go_ret2
    exact ⟨hb1, pw_nil s nm w w1 x HK.out⟩
  · have HE := hidS hE
    have HTW := hidS htw
    have HUN := hidS hun
    have HAT := hidS hat
    have Hf := hidS (c71 s w1 g ac A.length A nm (Nat.le_refl _) hA hat)
    rw [List.take_length] at Hf
    have HR := hidS (ris_ends hE)
    clear hE htw hun hat hk
    go_wp2_with fail
    refine Hf.out.mono ?_
    rintro e w2 ⟨rfl, hw⟩
    obtain rfl := hw.symm
    clear Hf
    cases hh : hitB nm A
    · have HK : Hid (PWalk s nm 4 []) := .inr ⟨A, hs, HE.out, HTW.out, HUN.out, fun ts hT => miss_of nm hh ts hT⟩
      generalize idxA nm A 0 = IX at *
      go_wp2
      go_ret2
      exact ⟨hb1, pw_nil s nm w w1 4 HK.out⟩
    · have hix : idxA nm A 0 ≤ 1000 := by have := idx_le nm A 0; omega
      have HEX : Hid (∃ ts β t0, Good s A (idxA nm A 0) ts β t0) := by
        obtain ⟨ts, hT, _⟩ := tflat_ex s A hs HE.out w
        obtain ⟨β, hG, _⟩ := good_of hs HUN.out nm hh ts hT
        exact ⟨ts, β, _, hG⟩
      have HBAD : Hid ((∀ ts β t0, Good s A (idxA nm A 0) ts β t0 → TBad ts t0) → PWalk s nm 6 []) := fun hq => .inr ⟨A, hs, HE.out, HTW.out, HUN.out, fun ts hT => by
        obtain ⟨β, hG, h0⟩ := good_of hs HUN.out nm hh ts hT
        exact .inr ⟨h0, .inl ⟨hq ts β _ hG, rfl, rfl⟩⟩⟩
      have HOK : Hid (∀ fs', (∀ ts β t0, Good s A (idxA nm A 0) ts β t0 → RInv s A ts β t0 fs'.gs.length fs') → fs'.grew = false → PWalk s nm 0 (usA A fs'.cm (A.length * 24))) := fun fs' hq hn => .inr ⟨A, hs, HE.out, HTW.out, HUN.out, fun ts hT => by
        obtain ⟨β, hG, h0⟩ := good_of hs HUN.out nm hh ts hT
        obtain ⟨q1, q2⟩ := usA_list hG HR.out (hq ts β _ hG) hn
        exact .inr ⟨h0, .inr ⟨q1, rfl, q2⟩⟩⟩
      have HI : Hid (∀ ts β t0, Good s A (idxA nm A 0) ts β t0 → FInv s A ts β t0 ⟨[⟨idxA nm A 0, 0, -1⟩], fun _ _ => false, true⟩) := fun ts β t0 hG => by
        rw [← hG.beg]; exact finv0 s A ts β t0 hG.plc hG.lt
      have hRL := ris_len HR.out
      clear HE HTW HUN hh HR
      generalize idxA nm A 0 = IX at *
      have M1 := fun wx : World => make107 wx A.length hA
      have HZ := hidS (zA_at A.length)
      generalize zA A.length = Z0 at *
      have hsz := hb1.size
      have hf0 := fk0 s A w1 g ac Z0 hA HAT.out hg2 HZ.out
      have hb2 : Below w.heap.size w ((w1.alloc (.cells Z0 90)).alloc (.cells #[.slice (some ⟨g, 0, none⟩) A.length ac, .slice none 0 0, .slice (some ⟨w1.heap.size, 0, none⟩) A.length A.length, .bool false] 75)) := (hb1.alloc (by omega) _).alloc (by simp; omega) _
      go_wp2_with fail
      generalize hW : (w1.alloc (.cells Z0 90)).alloc (.cells #[.slice (some ⟨g, 0, none⟩) A.length ac, .slice none 0 0, .slice (some ⟨w1.heap.size, 0, none⟩) A.length A.length, .bool false] 75) = W at *
      clear hW M1 HZ HAT
      obtain ⟨f, hf, e1, e2, e3⟩ : ∃ f : Fp, f = ⟨w1.heap.size + 1, g, ac, w1.heap.size, A.length, w1.heap.size + 2⟩ ∧ f.F = w1.heap.size + 1 ∧ w.heap.size ≤ f.cg ∧ w.heap.size ≤ f.B := ⟨_, rfl, rfl, hsz, by show _ ≤ w1.heap.size + 2; omega⟩
      rw [← hf] at hf0
      rw [← e1]
      have hF : w.heap.size ≤ f.F := by omega
      have Hmt := hidS (p72 s A W f none 0 ⟨[], fun _ _ => false, false⟩ IX 0 hix (by decide) (by simp) hf0)
      have HK0 := hidS hf0
      clear hf hf0 e1
      refine Hmt.out.mono ?_
      rintro e W2 ⟨rfl, hfo⟩
      clear Hmt
      change FOut s A f none 0 0 W W2 ⟨[⟨IX, 0, -1⟩], fun _ _ => false, true⟩ at hfo
      have hfr2 := Fr.of_chg HK0.out hfo.1
      obtain ⟨_, ga, gc, hk2, _⟩ := hfo
      have hb3 : Below w.heap.size w W2 := hb2.trans (hfr2.below hF e2 e3)
      have Hfa := hidS (p73 s A IX HEX.out W2 f ga gc _ hs hk2 HI.out rfl)
      clear hk2 hfr2 HK0 hb2 HI HEX
      go_wp2_with fail
      refine Hfa.out.mono ?_
      rintro e W3 ⟨hfr3, hor⟩
      have hb4 : Below w.heap.size w W3 := hb3.trans (hfr3.below hF e2 e3)
      clear Hfa hfr3 hb3
      rcases hor with ⟨hbad, rfl⟩ | ⟨fs', ga', gc', rfl, hk3, hri, hgr⟩
      · have HF := hidS (HBAD.out hbad)
        clear hbad HBAD HOK
        go_wp2
        go_ret2
        exact ⟨hb4, pw_nil s nm w W3 6 HF.out⟩
      · have HF := hidS (HOK.out fs' hri hgr)
        have Hus := hidS (p74 s A W3 f ga' gc' fs' hk3)
        have hul := usA_len A fs'.cm (A.length * 24)
        clear hri hgr hk3 HOK HBAD
        unfold UsPost at Hus
        generalize usA A fs'.cm (A.length * 24) = LL at *
        go_wp2_with fail
        refine Hus.out.mono ?_
        rintro e W4 ⟨hb5, a, c, rfl, hown⟩
        have HO := hidS hown
        have hb6 : Below w.heap.size w W4 := hb4.trans (hb5.mono hb4.size)
        have hs4 := hb4.size
        clear Hus hown
        go_wp2
        go_ret2
        exact ⟨hb6, a, c, 0, LL, rfl, own_base HO.out hs4, by omega, HF.out⟩
set_option maxHeartbeats 1000000 in
theorem p25 : PWOK 15 := by
  intro s nm w hm
  have Hc := hidS (p48 s nm w hm)
  go_enter Try.func15, Try.ntmps15
  go_wp2_with fail
  refine Hc.out.mono ?_
  clear Hc
  rintro e w1 ⟨hb, a, c, x, L, rfl, ho, hl, hp⟩
  have HO := hidS ho
  have HP := hidS hp
  clear ho hp
  go_wp2
  go_ret2
  exact ⟨hb, a, c, x, L, rfl, HO.out, hl, HP.out⟩
end Go.Proofs.Ytffkejkgkgfnhaa
