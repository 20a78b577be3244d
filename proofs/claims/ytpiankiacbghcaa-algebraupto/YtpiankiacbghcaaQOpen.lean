/-
  What came in, opened: a script.
-/
import Derived.Test.YtpiankiacbghcaaRows
import Derived.Test.YtpiankiacbghcaaQStep
import Derived.Deep.Slices
import Derived.WalkKit
import Derived.ProofKit
import Derived.OpenShut
namespace Go.Proofs.Ytpiankiacbghcaa
open Go.RowKit Go.ChangeShapes Go.WideShapes Go.ChangeAt Go.Deep

theorem addr_plain {w : World} {a : Addr} {v : Value} (h : w.cell? a = some v) : a = ⟨a.block, a.off, none⟩ := by
  obtain ⟨b, o, s⟩ := a
  cases s with
  | none => rfl
  | some s =>
    exfalso
    unfold World.cell? at h
    split at h <;> simp at h

theorem Try.cInt : Try.prog.cellsOf 3 = 1 := by kernel_rfl
theorem Try.cStr : Try.prog.cellsOf 9 = 1 := by kernel_rfl
theorem Try.cParts : Try.prog.cellsOf 28 = 1 := by kernel_rfl
theorem Try.cPart : Try.prog.cellsOf 45 = 3 := by kernel_rfl
theorem Try.cOp : Try.prog.cellsOf 58 = 8 := by kernel_rfl

theorem add_at (b o j : Nat) : (⟨b, o, none⟩ : Addr).add j = ⟨b, o + j, none⟩ := by
  unfold Addr.add
  split
  · next h => subst h; rfl
  · rfl

theorem len3 {α : Type} {l : List α} (h : l.length = 3) : ∃ a b c, l = [a, b, c] := by
  match l, h with
  | [a, b, c], _ => exact ⟨a, b, c, rfl⟩

theorem len8 {α : Type} {l : List α} (h : l.length = 8) : ∃ a b c d e f g i, l = [a, b, c, d, e, f, g, i] := by
  match l, h with
  | [a, b, c, d, e, f, g, i], _ => exact ⟨a, b, c, d, e, f, g, i, rfl⟩

theorem bulk_mem {H : Type} {d : DataW H} {l : List (DataW H)} (h : d ∈ l) : Rows.uptoBulk d ≤ Rows.uptoBulkAll l := by
  induction l with
  | nil => cases h
  | cons x r ih =>
    simp only [Rows.uptoBulkAll]
    cases List.mem_cons.1 h with
    | inl e => subst e; omega
    | inr e => have := ih e; omega

theorem bulk_sum {H : Type} (D : Nat → DataW H) (g : Nat → Nat) (l : List Nat) (h : ∀ i ∈ l, g i ≤ Rows.uptoBulk (D i)) : (l.map g).sum ≤ Rows.uptoBulkAll (l.map D) := by
  induction l with
  | nil => simp [Rows.uptoBulkAll]
  | cons x r ih =>
    have h1 := h x (by simp)
    have h2 := ih fun i hi => h i (by simp [hi])
    simp only [List.map_cons, List.sum_cons, Rows.uptoBulkAll]
    omega

theorem open_part {H : Type} {enc : TypeId × Value → H} {W : World} {n : Nat} {cs : List Value} {x : DataW H × List MemPlace} (h : DataW.trod enc Try.prog W 0 (fun _ => true) true n 45 cs = some x) :
    ∃ q : Qt, cs = qCells q ∧ q.text.length + 1 ≤ Rows.uptoBulk x.1 := by
  obtain ⟨xs, k, rfl, rfl, hcl, hxl, hf⟩ := DataW.trod_struct Try.underlying45 h
  rw [Try.cPart] at hcl
  obtain ⟨y0, y1, y2, rfl⟩ := len3 hxl
  obtain ⟨v0, v1, v2, rfl⟩ := len3 hcl
  · clear hxl hcl h
    have g0 := hf 0 _ rfl
    have g1 := hf 1 _ rfl
    have g2 := hf 2 _ rfl
    simp [Try.cInt, Try.cStr] at g0 g1 g2
    obtain ⟨k0, e0, _⟩ := DataW.trod_int Try.underlying3 g0
    obtain ⟨k1, e1, _⟩ := DataW.trod_int Try.underlying3 g1
    obtain ⟨s, e2, e3, _⟩ := DataW.trod_string Try.underlying9 g2
    simp only [List.cons.injEq, and_true] at e0 e1 e2
    subst e0 e1 e2 e3
    refine ⟨⟨k0, k1, s.data.toList⟩, ?_, ?_⟩
    · rw [qCells, ← bs_of (t := s.data.toList) rfl]
    · simp only [List.map_cons, Rows.uptoBulk, Rows.uptoBulkAll]
      omega

theorem open_parts {H : Type} {enc : TypeId × Value → H} {W : World} {n : Nat} {v : Value} {x : DataW H × List MemPlace} (h : DataW.trod enc Try.prog W 0 (fun _ => true) true n 28 [v] = some x) :
    ∃ Q : List Qt, ArgAt W.heap.size W v Q ∧ CapOk v ∧ Q.length ≤ Rows.uptoBulk x.1 ∧ tlenQ Q ≤ Rows.uptoBulk x.1 := by
  rcases open_slice Try.underlying28 h with ⟨e, rfl⟩ | ⟨a, len, cap, m, n, D, Pl, e, hb, hl, hm, hmm, rfl, hx⟩
  · simp only [List.cons.injEq, and_true] at e
    subst e
    exact ⟨[], .inl ⟨rfl, rfl⟩, Nat.le_refl _, by simp, by simp [tlenQ]⟩
  · simp only [List.cons.injEq, and_true] at e
    subst e
    simp only [if_true] at hmm
    subst hmm
    rw [Try.cPart] at hx
    have : Inhabited Qt := ⟨⟨0, 0, []⟩⟩
    obtain ⟨f, hf⟩ := choose_lt (α := Qt) (n := len) (p := fun i q => W.cells? 0 (a.add (i * 3)) 3 = some (qCells q) ∧ q.text.length + 1 ≤ Rows.uptoBulk (D i)) (fun i hi => by
      obtain ⟨cs', h1, h2⟩ := hx i (by omega)
      obtain ⟨q, rfl, hq⟩ := open_part h2
      exact ⟨q, h1, hq⟩)
    have hsum := bulk_sum D (fun i => (f i).text.length + 1) (List.range len) fun i hi => (hf i (List.mem_range.1 hi)).2
    have hlen : len ≤ ((List.range len).map fun i => (f i).text.length + 1).sum := by
      have : ∀ l : List Nat, l.length ≤ (l.map fun i => (f i).text.length + 1).sum := by
        intro l
        induction l with
        | nil => simp
        | cons x r ih => simp only [List.length_cons, List.map_cons, List.sum_cons]; omega
      simpa using this (List.range len)
    have htl : tlenQ ((List.range len).map f) ≤ ((List.range len).map fun i => (f i).text.length + 1).sum := by
      have : ∀ l : List Nat, tlenQ (l.map f) ≤ (l.map fun i => (f i).text.length + 1).sum := by
        intro l
        induction l with
        | nil => simp [tlenQ]
        | cons x r ih => simp only [tlenQ, List.map_cons, List.sum_cons] at *; omega
      exact this _
    refine ⟨(List.range len).map f, .inr ⟨a, m, by simp, fun hpos => ?_⟩, hl, ?_, ?_⟩
    · have hpos' : 0 < len := by simpa using hpos
      have hcell : ∀ i, i < len → ∀ j, j < 3 → W.cell? (a.add (i * 3 + j)) = (qCells (f i))[j]? := by
        intro i hi j hj
        have := (World.cells?_some (hf i hi).1).2.2 j hj
        rwa [add_add] at this
      have h0 := hcell 0 hpos' 0 (by omega)
      have ha : a.add (0 * 3 + 0) = a := by simp [Addr.add]
      rw [ha] at h0
      obtain ⟨ab, ao, rfl⟩ : ∃ ab ao, a = ⟨ab, ao, none⟩ := ⟨_, _, addr_plain (v := .int .i64 (f 0).kind) h0⟩
      refine ⟨ab, ao, rfl, World.block_lt_of_cell? W _ (u := .int .i64 (f 0).kind) h0, fun k hk => ?_⟩
      have hk' : k < len := by simpa using hk
      have c0 := hcell k hk' 0 (by omega)
      have c1 := hcell k hk' 1 (by omega)
      have c2 := hcell k hk' 2 (by omega)
      rw [add_at] at c0 c1 c2
      simp only [List.getElem_map, List.getElem_range]
      exact ⟨c0, c1, c2⟩
    · simp only [List.length_map, List.length_range, Rows.uptoBulk]
      omega
    · simp only [Rows.uptoBulk]
      omega

theorem open_step {H : Type} {enc : TypeId × Value → H} {W : World} {n : Nat} {cs : List Value} {x : DataW H × List MemPlace} (h : DataW.trod enc Try.prog W 0 (fun _ => true) true n 58 cs = some x) (hb : Rows.uptoBulk x.1 ≤ 1048576) :
    ∃ o : Stp, cs = stpCells o ∧ StpOk W.heap.size W o ∧ Small o := by
  obtain ⟨xs, k, rfl, rfl, hcl, hxl, hf⟩ := DataW.trod_struct Try.underlying58 h
  rw [Try.cOp] at hcl
  obtain ⟨y0, y1, y2, y3, y4, y5, y6, y7, rfl⟩ := len8 hxl
  obtain ⟨v0, v1, v2, v3, v4, v5, v6, v7, rfl⟩ := len8 hcl
  · clear hxl hcl h
    have g0 := hf 0 _ rfl
    have g1 := hf 1 _ rfl
    have g2 := hf 2 _ rfl
    have g3 := hf 3 _ rfl
    have g4 := hf 4 _ rfl
    have g5 := hf 5 _ rfl
    have g6 := hf 6 _ rfl
    have g7 := hf 7 _ rfl
    simp [Try.cInt, Try.cStr, Try.cParts] at g0 g1 g2 g3 g4 g5 g6 g7
    obtain ⟨k0, e0, _⟩ := DataW.trod_int Try.underlying3 g0
    obtain ⟨k1, e1, _, w1⟩ := DataW.trod_int Try.underlying3 g1
    obtain ⟨k2, e2, _⟩ := DataW.trod_int Try.underlying3 g2
    obtain ⟨k3, e3, _⟩ := DataW.trod_int Try.underlying3 g3
    obtain ⟨k4, e4, _⟩ := DataW.trod_int Try.underlying3 g4
    obtain ⟨s, e5, e5', _⟩ := DataW.trod_string Try.underlying9 g5
    obtain ⟨QL, hL, hLc, hLn, hLt⟩ := open_parts g6
    obtain ⟨QM, hM, hMc, hMn, hMt⟩ := open_parts g7
    simp only [List.cons.injEq, and_true] at e0 e1 e2 e3 e4 e5
    subst e0 e1 e2 e3 e4 e5 e5'
    have hk1 := bounds_i64 w1
    simp only [List.map_cons, List.map_nil, Rows.uptoBulk, Rows.uptoBulkAll] at hb
    refine ⟨⟨k0, k1, k2, k3, k4, s.data.toList, v6, v7, QL, QM⟩, ?_, ⟨⟨hL, hLc, by show QL.length ≤ _; omega⟩, ⟨hM, hMc, by show QM.length ≤ _; omega⟩⟩, ⟨hk1.1, hk1.2, by show s.data.toList.length ≤ _; omega, by show tlenQ QL ≤ _; omega, by show tlenQ QM ≤ _; omega⟩⟩
    rw [stpCells, ← bs_of (t := s.data.toList) rfl]

theorem open_script {H : Type} {enc : TypeId × Value → H} {W : World} {n : Nat} {v : Value} {x : DataW H × List MemPlace} (h : DataW.trod enc Try.prog W 0 (fun _ => true) true n 22 [v] = some x) (hb : Rows.uptoBulk x.1 ≤ 1048576) :
    ∃ Ss : List Stp, StepsAt W v Ss ∧ (∀ o ∈ Ss, StpOk W.heap.size W o ∧ Small o) ∧ Ss.length ≤ 1048576 := by
  rcases open_slice Try.underlying22 h with ⟨e, rfl⟩ | ⟨a, len, cap, m, n, D, Pl, e, hb0, hl, hm, hmm, rfl, hx⟩
  · simp only [List.cons.injEq, and_true] at e
    subst e
    exact ⟨[], .inl ⟨rfl, rfl⟩, by simp, by simp⟩
  · simp only [List.cons.injEq, and_true] at e
    subst e
    simp only [if_true] at hmm
    subst hmm
    rw [Try.cOp] at hx
    simp only [Rows.uptoBulk] at hb
    have : Inhabited Stp := ⟨⟨0, 0, 0, 0, 0, [], .slice none 0 0, .slice none 0 0, [], []⟩⟩
    obtain ⟨f, hf⟩ := choose_lt (α := Stp) (n := len) (p := fun i o => W.cells? 0 (a.add (i * 8)) 8 = some (stpCells o) ∧ StpOk W.heap.size W o ∧ Small o) (fun i hi => by
      obtain ⟨cs', h1, h2⟩ := hx i (by omega)
      have hd : Rows.uptoBulk (D i) ≤ 1048576 := by
        have := bulk_mem (d := D i) (l := (List.range len).map D) (List.mem_map_of_mem (List.mem_range.2 hi))
        omega
      obtain ⟨o, rfl, ho⟩ := open_step h2 hd
      exact ⟨o, h1, ho⟩)
    have hlen : len ≤ 1048576 := by
      have := bulk_sum D (fun _ => 1) (List.range len) fun i _ => by
        cases D i with
        | lit l => cases l <;> simp [Rows.uptoBulk]
        | nil => simp [Rows.uptoBulk]
        | ptr d => simp [Rows.uptoBulk]
        | slice elems spare => simp [Rows.uptoBulk]
        | agg parts => simp [Rows.uptoBulk]
        | iface t d => simp [Rows.uptoBulk]
        | map entries => simp [Rows.uptoBulk]
        | held h => simp [Rows.uptoBulk]
      have h1 : ((List.range len).map fun _ => 1).sum = len := by rw [List.map_const', List.length_range, List.sum_replicate_nat, Nat.mul_one]
      omega
    refine ⟨(List.range len).map f, .inr ⟨a, m, by simp, fun j u hu => ?_⟩, fun o ho => ?_, by simpa using hlen⟩
    · have hj : j < ((List.range len).map f).length * 8 := by
        rw [← rowS_length]
        exact (List.getElem?_eq_some_iff.1 hu).1
      have hi : j / 8 < ((List.range len).map f).length := by omega
      have hi' : j / 8 < len := by simpa using hi
      have hat := rowS_at ((List.range len).map f) (j / 8) hi (j % 8) (by omega)
      rw [show j / 8 * 8 + j % 8 = j by omega, hu] at hat
      have hc := (World.cells?_some (hf (j / 8) hi').1).2.2 (j % 8) (by omega)
      rw [add_add, show j / 8 * 8 + j % 8 = j by omega] at hc
      have he : ((List.range len).map f)[j / 8] = f (j / 8) := by rw [List.getElem_map, List.getElem_range]
      rw [hc, ← he, ← hat]
    · obtain ⟨i, hi, rfl⟩ := List.mem_map.1 ho
      exact (hf i (List.mem_range.1 hi)).2

end Go.Proofs.Ytpiankiacbghcaa
