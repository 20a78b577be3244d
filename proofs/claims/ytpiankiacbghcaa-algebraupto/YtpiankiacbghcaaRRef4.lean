/-
  The document's answer: with.
-/
import Derived.Test.YtpiankiacbghcaaRRef2
import Derived.Deep.AppendLies
namespace Go.Proofs.Ytpiankiacbghcaa
open Go.RowKit

theorem own_setAt {w : World} {base : Nat} {e : TypeId} {sz g n cap : Nat} {xs : List Value} (h : w.ownsRow base e sz (.slice (some ⟨g, 0, none⟩) n cap) n xs) (i : Nat) (_hi : i < xs.length) (u : Value) :
    (w.setCell ⟨g, i, none⟩ u).ownsRow base e sz (.slice (some ⟨g, 0, none⟩) n cap) n (xs.set i u) := by
  refine ⟨by simpa using h.1, ?_⟩
  rcases h.2 with ⟨e, _⟩ | ⟨g', cap', cur, e, hb, hg, r1, r2, r3, r4⟩
  · simp at e
  · simp only [Value.slice.injEq, Option.some.injEq, Addr.mk.injEq] at e
    obtain ⟨⟨rfl, _⟩, _, rfl⟩ := e
    refine .inr ⟨g, cap, _, rfl, hb, block_set hg i u, r1, r2, by simpa using r3, ?_⟩
    simp only [Array.toList_setIfInBounds]
    rw [← r4, List.take_set]

theorem grown_set {w w1 : World} {row : Option Nat} (hg : w.grownBy w1 row) {g : Nat} (h : row = some g ∨ w.heap.size ≤ g) (i : Nat) (u : Value) : w.grownBy (w1.setCell ⟨g, i, none⟩ u) row := by
  refine ⟨hg.os, hg.tape, hg.output, by simpa [World.setCell] using hg.size, fun k hk hr => ?_⟩
  have hne : k ≠ g := by
    rcases h with e | e
    · intro e2; exact hr (by rw [e, e2])
    · omega
  rw [Below.heap_setCell _ _ _ _ hne]
  exact hg.block k hk hr

theorem grown_refl (w : World) (row : Option Nat) : w.grownBy w row := ⟨rfl, rfl, rfl, Nat.le_refl _, fun _ _ _ => rfl⟩

theorem grown_alloc {w w1 : World} {o : Obj} {row : Option Nat} (h : (w.alloc o).grownBy w1 row) : w.grownBy w1 row :=
  ⟨h.os, h.tape, h.output, by have := h.size; simp at this; omega, fun k hk hr => (h.block k (by simp; omega) hr).trans (Lib.alloc_old w o k hk)⟩

/-- a unit. -/
structure IsU (u : Pt) (kind : Nat) (t : List UInt8) : Prop where
  ukind : u.kind = kind
  utext : u.text = t
  unum : (kind = 2 ∧ u.num = 0) ∨ ((kind = 1 ∨ kind = 3) ∧ u.num = 1 ∧ t = [])

theorem row_last (L : List Pt) (p : Pt) (j : Nat) (u : Value) (hj : j < 3) : (rowOf (L ++ [p])).set (L.length * 3 + j) u = rowOf L ++ (ptCells p).set j u := by
  rw [rowOf_snoc, List.set_append_right _ _ (by rw [rowOf_length]; omega), rowOf_length, Nat.add_sub_cancel_left]

theorem append_empty_bs (c : List UInt8) : ({ data := #[] } : ByteArray) ++ bs c = bs c := by
  have : ({ data := #[] } : ByteArray) = bs [] := rfl
  rw [this, bs_append]; rfl

theorem at_row {w : World} {base g n cap : Nat} {xs : List Value} (h : w.ownsRow base 45 3 (.slice (some ⟨g, 0, none⟩) n cap) n xs) (j : Nat) (u : Value) (hj : xs[j]? = some u) : w.cell? ⟨g, j, none⟩ = some u ∧ w.frozen? ⟨g, j, none⟩ = false := by
  have hc := h.cells (g := g) rfl j u hj
  have hadd : (⟨g, 0, none⟩ : Addr).add j = ⟨g, j, none⟩ := by unfold Addr.add; split <;> simp_all
  rw [hadd] at hc
  refine ⟨hc, ?_⟩
  rcases h.2 with ⟨e, _⟩ | ⟨g', cap', cur, e, hb, hg, _⟩
  · simp at e
  · simp only [Value.slice.injEq, Option.some.injEq, Addr.mk.injEq] at e
    obtain ⟨⟨rfl, _⟩, _, rfl⟩ := e
    exact Lib.frozen_of_heap hg j

set_option maxHeartbeats 1000000 in
set_option maxRecDepth 100000 in
/-- the last part is of that kind. -/
theorem with_same (base g cap : Nat) (L : List Pt) (p u : Pt) (kind : Nat) (t : List UInt8) (w : World) (h : w.ownsRow base 45 3 (.slice (some ⟨g, 0, none⟩) (L.length + 1) cap) (L.length + 1) (rowOf (L ++ [p]))) (hu : IsU u kind t) (hk : p.kind = kind)
    (hL : L.length ≤ 1000000000) (hp : p.num ≤ 1000000000) (ht : p.text.length ≤ 1000000000) (hs : t.length ≤ 1000000000) :
    Calls Try.prog 102 #[.slice (some ⟨g, 0, none⟩) (L.length + 1) cap, .int .i64 kind, .string (bs t)] w fun e w' => e = .returned (.slice (some ⟨g, 0, none⟩) (L.length + 1) cap) ∧
      w'.ownsRow base 45 3 (.slice (some ⟨g, 0, none⟩) (L.length + 1) cap) (L.length + 1) (rowOf (L ++ [⟨kind, p.num + u.num, p.text ++ u.text⟩])) ∧ w.grownBy w' (some g) := by
  have e0 := at_row h (L.length * 3 + 0) (.int .i64 p.kind) ((rowOf_at (L ++ [p]) L.length (by simp) 0 (by omega)).trans (by simp [ptCells]))
  have e1 := at_row h (L.length * 3 + 1) (.int .i64 p.num) ((rowOf_at (L ++ [p]) L.length (by simp) 1 (by omega)).trans (by simp [ptCells]))
  have e2 := at_row h (L.length * 3 + 2) (.string (bs p.text)) ((rowOf_at (L ++ [p]) L.length (by simp) 2 (by omega)).trans (by simp [ptCells]))
  simp only [Nat.add_zero] at e0
  rw [hk] at e0
  obtain ⟨c0, _⟩ := e0
  obtain ⟨c1, f1⟩ := e1
  obtain ⟨c2, f2⟩ := e2
  have H : Hid (w.ownsRow base 45 3 (.slice (some ⟨g, 0, none⟩) (L.length + 1) cap) (L.length + 1) (rowOf (L ++ [p]))) := h
  have s1 : (bs p.text).size ≤ 1000000000 := by rw [bs_size]; exact ht
  have s2 : (bs t).size ≤ 1000000000 := by rw [bs_size]; exact hs
  have HK : Hid (p.kind = kind) := hk
  clear h hk
  rcases hu.unum with ⟨hk2, hun⟩ | ⟨hk2, hun, htn⟩
  · subst hk2
    go_enter Try.func102, Try.ntmps102
    go_wp2
    go_ret
    refine ⟨rfl, ?_, grown_set (grown_refl w _) (.inl rfl) _ _⟩
    have hx := own_setAt H.out (L.length * 3 + 2) (by rw [rowOf_length]; simp; omega) (.string (bs p.text ++ bs t))
    rw [row_last L p 2 _ (by omega), bs_append] at hx
    have e : rowOf L ++ (ptCells p).set 2 (.string (bs (p.text ++ t))) = rowOf (L ++ [⟨2, p.num + u.num, p.text ++ u.text⟩]) := by
      rw [rowOf_snoc, hu.utext, hun]
      simp [ptCells, HK.out]
    rw [e] at hx
    rw [bs_append]
    exact hx
  · have hk3 : ((kind : Int) == 2) = false := beq_eq_false_iff_ne.2 (by omega)
    go_enter Try.func102, Try.ntmps102
    go_wp2
    go_ret
    refine ⟨rfl, ?_, grown_set (grown_refl w _) (.inl rfl) _ _⟩
    have hx := own_setAt H.out (L.length * 3 + 1) (by rw [rowOf_length]; simp; omega) (.int .i64 ((p.num : Int) + 1))
    rw [row_last L p 1 _ (by omega)] at hx
    have e : rowOf L ++ (ptCells p).set 1 (.int .i64 ((p.num : Int) + 1)) = rowOf (L ++ [⟨kind, p.num + u.num, p.text ++ u.text⟩]) := by
      rw [rowOf_snoc, hu.utext, hun, htn]
      simp [ptCells, HK.out]
    rw [e] at hx
    exact hx

set_option maxHeartbeats 1000000 in
set_option maxRecDepth 100000 in
/-- the last part is of another kind, or there is none. -/
theorem with_new (base : Nat) (v : Value) (L : List Pt) (u : Pt) (kind : Nat) (t : List UInt8) (w : World) (h : w.ownsRow base 45 3 v L.length (rowOf L)) (hb : base ≤ w.heap.size) (hu : IsU u kind t) (hk : ∀ p, L.getLast? = some p → p.kind ≠ kind)
    (hL : L.length ≤ 1000000000) (hs : t.length ≤ 1000000000) :
    Calls Try.prog 102 #[v, .int .i64 kind, .string (bs t)] w fun e w' => ∃ g cap, e = .returned (.slice (some ⟨g, 0, none⟩) (L.length + 1) cap) ∧
      w'.ownsRow base 45 3 (.slice (some ⟨g, 0, none⟩) (L.length + 1) cap) (L.length + 1) (rowOf (L ++ [u])) ∧ w.grownBy w' v.ownBlock := by
  obtain ⟨i0, hi, hz0, hz1, hz2⟩ := info_parts Try.infoPart
  have H : Hid (w.ownsRow base 45 3 v L.length (rowOf L)) := h
  have s2 : (bs t).size ≤ 1000000000 := by rw [bs_size]; exact hs
  obtain ⟨ao, cap0, hvf⟩ : ∃ ao cap0, v = .slice ao L.length cap0 := by
    rcases h.2 with ⟨e, h0⟩ | ⟨g2, cap2, cur2, e, _⟩
    · exact ⟨none, 0, by rw [e, h0]⟩
    · exact ⟨_, _, e⟩
  have hread : L.length = 0 ∨ ∃ g m q, ao = some ⟨g, 0, none⟩ ∧ L.length = m + 1 ∧ w.cell? ⟨g, m * 3, none⟩ = some (.int .i64 q) ∧ (q != (kind : Int)) = true := by
    rcases Nat.eq_zero_or_pos L.length with e | e
    · exact .inl e
    · right
      obtain ⟨M, p, rfl⟩ : ∃ M p, L = M ++ [p] := ⟨L.dropLast, L.getLast (fun e2 => by rw [e2] at e; simp at e), (List.dropLast_concat_getLast _).symm⟩
      rcases h.2 with ⟨_, h0⟩ | ⟨g2, cap2, cur2, e2, _⟩
      · omega
      · subst e2
        have c0 := at_row h (M.length * 3 + 0) (.int .i64 p.kind) ((rowOf_at (M ++ [p]) M.length (by simp) 0 (by omega)).trans (by simp [ptCells]))
        simp only [Nat.add_zero] at c0
        simp only [Value.slice.injEq] at hvf
        refine ⟨g2, M.length, p.kind, hvf.1.symm, by simp, c0.1, ?_⟩
        rw [bne_iff_ne]
        have := hk p (by simp)
        omega
  subst hvf
  clear h
  have fin : ∀ (w9 : World) (gn cap9 : Nat), w9.ownsRow base 45 3 (.slice (some ⟨gn, 0, none⟩) (L.length + 1) cap9) (L.length + 1) (rowOf L ++ [.int .i64 kind, .int .i64 0, .string ⟨#[]⟩]) →
      (kind = 2 → (w9.setCell ⟨gn, L.length * 3 + 2, none⟩ (.string (bs t))).ownsRow base 45 3 (.slice (some ⟨gn, 0, none⟩) (L.length + 1) cap9) (L.length + 1) (rowOf (L ++ [u]))) ∧
      (kind ≠ 2 → (w9.setCell ⟨gn, L.length * 3 + 1, none⟩ (.int .i64 1)).ownsRow base 45 3 (.slice (some ⟨gn, 0, none⟩) (L.length + 1) cap9) (L.length + 1) (rowOf (L ++ [u]))) ∧
      w9.cell? ⟨gn, L.length * 3 + 1, none⟩ = some (.int .i64 0) ∧ w9.cell? ⟨gn, L.length * 3 + 2, none⟩ = some (.string ⟨#[]⟩) ∧ w9.frozen? ⟨gn, L.length * 3 + 1, none⟩ = false ∧ w9.frozen? ⟨gn, L.length * 3 + 2, none⟩ = false := by
    intro w9 gn cap9 h9
    have e9 : rowOf L ++ [.int .i64 kind, .int .i64 0, .string ⟨#[]⟩] = rowOf (L ++ [⟨kind, 0, []⟩]) := by rw [rowOf_snoc]; rfl
    rw [e9] at h9
    have a1 := at_row h9 (L.length * 3 + 1) (.int .i64 0) ((rowOf_at (L ++ [⟨kind, 0, []⟩]) L.length (by simp) 1 (by omega)).trans (by simp [ptCells]))
    have a2 := at_row h9 (L.length * 3 + 2) (.string ⟨#[]⟩) ((rowOf_at (L ++ [⟨kind, 0, []⟩]) L.length (by simp) 2 (by omega)).trans (by simp [ptCells, bs]))
    refine ⟨fun hk2 => ?_, fun hk2 => ?_, a1.1, a2.1, a1.2, a2.2⟩
    · have hx := own_setAt h9 (L.length * 3 + 2) (by rw [rowOf_length]; simp; omega) (.string (bs t))
      rw [row_last L _ 2 _ (by omega)] at hx
      have e : rowOf L ++ (ptCells ⟨kind, 0, []⟩).set 2 (.string (bs t)) = rowOf (L ++ [u]) := by
        rw [rowOf_snoc]
        have hn : u.num = 0 := by rcases hu.unum with ⟨_, h⟩ | ⟨h, _⟩; exact h; omega
        simp [ptCells, hu.ukind, hu.utext, hn]
      rw [e] at hx
      exact hx
    · have hx := own_setAt h9 (L.length * 3 + 1) (by rw [rowOf_length]; simp; omega) (.int .i64 1)
      rw [row_last L _ 1 _ (by omega)] at hx
      have e : rowOf L ++ (ptCells ⟨kind, 0, []⟩).set 1 (.int .i64 1) = rowOf (L ++ [u]) := by
        rw [rowOf_snoc]
        have hn : u.num = 1 ∧ t = [] := by rcases hu.unum with ⟨h, _⟩ | ⟨_, h⟩; exact absurd h hk2; exact h
        simp [ptCells, hu.ukind, hu.utext, hn.1, hn.2]
      rw [e] at hx
      exact hx
  have HF : Hid (∀ (w9 : World) (gn cap9 : Nat), w9.ownsRow base 45 3 (.slice (some ⟨gn, 0, none⟩) (L.length + 1) cap9) (L.length + 1) (rowOf L ++ [.int .i64 kind, .int .i64 0, .string ⟨#[]⟩]) →
      (kind = 2 → (w9.setCell ⟨gn, L.length * 3 + 2, none⟩ (.string (bs t))).ownsRow base 45 3 (.slice (some ⟨gn, 0, none⟩) (L.length + 1) cap9) (L.length + 1) (rowOf (L ++ [u]))) ∧
      (kind ≠ 2 → (w9.setCell ⟨gn, L.length * 3 + 1, none⟩ (.int .i64 1)).ownsRow base 45 3 (.slice (some ⟨gn, 0, none⟩) (L.length + 1) cap9) (L.length + 1) (rowOf (L ++ [u]))) ∧
      w9.cell? ⟨gn, L.length * 3 + 1, none⟩ = some (.int .i64 0) ∧ w9.cell? ⟨gn, L.length * 3 + 2, none⟩ = some (.string ⟨#[]⟩) ∧ w9.frozen? ⟨gn, L.length * 3 + 1, none⟩ = false ∧ w9.frozen? ⟨gn, L.length * 3 + 2, none⟩ = false) := fin
  clear fin hk
  by_cases hk2 : kind = 2
  · subst hk2
    rcases hread with e0 | ⟨g, m, q, rfl, e0, c0, hq⟩
    · have hl0 : (L.length : Int) - 1 < 0 := by omega
      clear e0
      go_enter Try.func102, Try.ntmps102
      go_wp2_with (at_builtin; refine wpList_append_lies _ rfl _ _ 28 rfl base 45 i0 _ 3 32 Try.underlying28 hi hz0 hz1 hz2 rfl (by omega) _ _ _ rfl (H.out.alloc _) ⟨w.heap.size, 0, none⟩ 1 1 [.int .i64 2, .int .i64 0, .string ⟨#[]⟩] rfl rfl (cell_three_new _ _ _ _ _) (fun x hx => by simp at hx; rcases hx with rfl | rfl | rfl <;> rfl) (by omega) (by unfold maxLen; omega) (by omega) (by simp; omega) (w.heap.size + 1) (by simp) ?_; intro gn cap9 w9 hown9 hgrow9 hat9 hlt9; obtain ⟨q1, q2, q3, q4, q5, q6⟩ := HF.out w9 gn cap9 hown9; have H9 : Hid (_ ∧ _ ∧ _ ∧ _) := ⟨q1, q2, hgrow9, hat9⟩; clear q1 q2 hgrow9 hat9 hown9)
      go_ret
      obtain ⟨h1, h2, h3, h4⟩ := H9.out
      rw [append_empty_bs]
      exact ⟨gn, cap9, rfl, h1 trivial, grown_set (grown_alloc h3) (by rcases h4 with e | e; exact .inl e; exact .inr (by omega)) _ _⟩
    · have hl0 : ¬ ((L.length : Int) - 1 < 0) := by omega
      have hl1 : (0 : Int) ≤ (L.length : Int) - 1 := by omega
      have et : ((L.length : Int) - 1).toNat = m := by omega
      clear e0
      go_enter Try.func102, Try.ntmps102
      go_wp2_with (at_builtin; refine wpList_append_lies _ rfl _ _ 28 rfl base 45 i0 _ 3 32 Try.underlying28 hi hz0 hz1 hz2 rfl (by omega) _ _ _ rfl (H.out.alloc _) ⟨w.heap.size, 0, none⟩ 1 1 [.int .i64 2, .int .i64 0, .string ⟨#[]⟩] rfl rfl (cell_three_new _ _ _ _ _) (fun x hx => by simp at hx; rcases hx with rfl | rfl | rfl <;> rfl) (by omega) (by unfold maxLen; omega) (by omega) (by simp; omega) (w.heap.size + 1) (by simp) ?_; intro gn cap9 w9 hown9 hgrow9 hat9 hlt9; obtain ⟨q1, q2, q3, q4, q5, q6⟩ := HF.out w9 gn cap9 hown9; have H9 : Hid (_ ∧ _ ∧ _ ∧ _) := ⟨q1, q2, hgrow9, hat9⟩; clear q1 q2 hgrow9 hat9 hown9)
      go_ret
      obtain ⟨h1, h2, h3, h4⟩ := H9.out
      rw [append_empty_bs]
      exact ⟨gn, cap9, rfl, h1 trivial, grown_set (grown_alloc h3) (by rcases h4 with e | e; exact .inl e; exact .inr (by omega)) _ _⟩
  · have hk3 : ((kind : Int) == 2) = false := beq_eq_false_iff_ne.2 (by omega)
    have HK2 : Hid (kind ≠ 2) := hk2
    clear hk2
    rcases hread with e0 | ⟨g, m, q, rfl, e0, c0, hq⟩
    · have hl0 : (L.length : Int) - 1 < 0 := by omega
      clear e0
      go_enter Try.func102, Try.ntmps102
      go_wp2_with (at_builtin; refine wpList_append_lies _ rfl _ _ 28 rfl base 45 i0 _ 3 32 Try.underlying28 hi hz0 hz1 hz2 rfl (by omega) _ _ _ rfl (H.out.alloc _) ⟨w.heap.size, 0, none⟩ 1 1 [.int .i64 kind, .int .i64 0, .string ⟨#[]⟩] rfl rfl (cell_three_new _ _ _ _ _) (fun x hx => by simp at hx; rcases hx with rfl | rfl | rfl <;> rfl) (by omega) (by unfold maxLen; omega) (by omega) (by simp; omega) (w.heap.size + 1) (by simp) ?_; intro gn cap9 w9 hown9 hgrow9 hat9 hlt9; obtain ⟨q1, q2, q3, q4, q5, q6⟩ := HF.out w9 gn cap9 hown9; have H9 : Hid (_ ∧ _ ∧ _ ∧ _) := ⟨q1, q2, hgrow9, hat9⟩; clear q1 q2 hgrow9 hat9 hown9)
      go_ret
      obtain ⟨h1, h2, h3, h4⟩ := H9.out
      exact ⟨gn, cap9, rfl, h2 HK2.out, grown_set (grown_alloc h3) (by rcases h4 with e | e; exact .inl e; exact .inr (by omega)) _ _⟩
    · have hl0 : ¬ ((L.length : Int) - 1 < 0) := by omega
      have hl1 : (0 : Int) ≤ (L.length : Int) - 1 := by omega
      have et : ((L.length : Int) - 1).toNat = m := by omega
      clear e0
      go_enter Try.func102, Try.ntmps102
      go_wp2_with (at_builtin; refine wpList_append_lies _ rfl _ _ 28 rfl base 45 i0 _ 3 32 Try.underlying28 hi hz0 hz1 hz2 rfl (by omega) _ _ _ rfl (H.out.alloc _) ⟨w.heap.size, 0, none⟩ 1 1 [.int .i64 kind, .int .i64 0, .string ⟨#[]⟩] rfl rfl (cell_three_new _ _ _ _ _) (fun x hx => by simp at hx; rcases hx with rfl | rfl | rfl <;> rfl) (by omega) (by unfold maxLen; omega) (by omega) (by simp; omega) (w.heap.size + 1) (by simp) ?_; intro gn cap9 w9 hown9 hgrow9 hat9 hlt9; obtain ⟨q1, q2, q3, q4, q5, q6⟩ := HF.out w9 gn cap9 hown9; have H9 : Hid (_ ∧ _ ∧ _ ∧ _) := ⟨q1, q2, hgrow9, hat9⟩; clear q1 q2 hgrow9 hat9 hown9)
      go_ret
      obtain ⟨h1, h2, h3, h4⟩ := H9.out
      exact ⟨gn, cap9, rfl, h2 HK2.out, grown_set (grown_alloc h3) (by rcases h4 with e | e; exact .inl e; exact .inr (by omega)) _ _⟩

theorem with_any (base : Nat) (v : Value) (L : List Pt) (u : Pt) (kind : Nat) (t : List UInt8) (w : World) (h : w.ownsRow base 45 3 v L.length (rowOf L)) (hb : base ≤ w.heap.size) (hu : IsU u kind t)
    (hL : L.length ≤ 1000000000) (hn : ∀ p ∈ L, p.num ≤ 1000000000 ∧ p.text.length ≤ 1000000000) (hs : t.length ≤ 1000000000) :
    Calls Try.prog 102 #[v, .int .i64 kind, .string (bs t)] w fun e w' => ∃ v', e = .returned v' ∧ w'.ownsRow base 45 3 v' (withP L u).length (rowOf (withP L u)) ∧ w.grownBy w' v.ownBlock := by
  by_cases hk : ∃ p, L.getLast? = some p ∧ p.kind = kind
  · obtain ⟨p, hp, hpk⟩ := hk
    obtain ⟨M, rfl⟩ : ∃ M, L = M ++ [p] := by
      have hne : L ≠ [] := fun e => by rw [e] at hp; simp at hp
      refine ⟨L.dropLast, ?_⟩
      have h1 := List.dropLast_concat_getLast hne
      have h2 : L.getLast hne = p := by rw [List.getLast?_eq_some_getLast hne] at hp; exact Option.some.inj hp
      rw [h2] at h1
      exact h1.symm
    have hw : withP (M ++ [p]) u = M ++ [⟨kind, p.num + u.num, p.text ++ u.text⟩] := by rw [withP_snoc, if_pos (by rw [hpk, hu.ukind]), hu.ukind]
    rw [hw]
    rcases h.2 with ⟨_, h0⟩ | ⟨g, cap, cur, e, _⟩
    · simp at h0
    · subst e
      have hl : (M ++ [p]).length = M.length + 1 := by simp
      rw [hl] at h ⊢
      have hpp := hn p (by simp)
      refine (with_same base g cap M p u kind t w h hu hpk (by simp at hL; omega) hpp.1 hpp.2 hs).mono ?_
      rintro e w' ⟨rfl, h1, h2⟩
      exact ⟨_, rfl, by simpa using h1, h2⟩
  · have hw : withP L u = L ++ [u] := by
      unfold withP
      cases hl : L.getLast? with
      | none =>
        have : L = [] := by simpa using hl
        rw [this]; rfl
      | some p => simp only; rw [if_neg (fun e => hk ⟨p, hl, by rw [e, hu.ukind]⟩)]
    rw [hw]
    refine (with_new base v L u kind t w h hb hu (fun p hp e => hk ⟨p, hp, e⟩) hL hs).mono ?_
    rintro e w' ⟨g, cap, rfl, h1, h2⟩
    exact ⟨_, rfl, by simpa using h1, h2⟩

end Go.Proofs.Ytpiankiacbghcaa
