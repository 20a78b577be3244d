/-
  The document's answer: what an operation does, in memory: nothing, settled.
-/
import Derived.Test.YtpiankiacbghcaaRRef1
import Derived.Test.YtpiankiacbghcaaRMath
import Derived.Test.YtpiankiacbghcaaAlg6
import Derived.Deep.OwnRows
import Derived.Laws.CopyOwn
import Derived.Laws.AppendOwnNone
namespace Go.Proofs.Ytpiankiacbghcaa
open Go.RowKit

theorem Try.infoBool : (Try.prog.info? 4).map (fun i => (i.zero, i.size, i.bytes)) = some (some (.bool false), 1, 1) := by kernel_rfl
theorem Try.infoStrs : (Try.prog.info? 61).map (fun i => (i.zero, i.size, i.bytes)) = some (some (.slice none 0 0), 1, 24) := by kernel_rfl

/-- what an operation does, as it lies in memory. -/
structure InsAt (base : Nat) (w : World) (iv : Value) (X : List (List (List UInt8))) (Vs : List Value) : Prop where
  row : w.ownsRow base 61 1 iv X.length Vs
  each : ∀ j (h : j < X.length), w.ownsRow base 9 1 (Vs.getD j undef) (X[j]).length (strV X[j])
  non : ∀ j (h : j < X.length), X[j] = [] → Vs.getD j undef = .slice none 0 0
  apart : ∀ i j, i < X.length → j < X.length → i ≠ j → (Vs.getD i undef).ownBlock = none ∨ (Vs.getD i undef).ownBlock ≠ (Vs.getD j undef).ownBlock

structure DoesAt (base : Nat) (w : World) (gv iv : Value) (G : List Bool) (X : List (List (List UInt8))) : Prop where
  gone : w.ownsRow base 4 1 gv G.length (G.map Value.bool)
  ins : ∃ Vs, InsAt base w iv X Vs

theorem made_own {w : World} {g base : Nat} {e : TypeId} {z : Value} {n : Nat} (h : w.heap[g]? = some (.cells (madeCells #[z] n) e (0, 0))) (hb : base ≤ g) (hn : n ≤ 1000000000) : w.ownsRow base e 1 (.slice (some ⟨g, 0, none⟩) n n) n (List.replicate n z) := by
  refine ⟨by simp, .inr ⟨g, n, madeCells #[z] n, rfl, hb, h, Nat.le_refl _, by unfold maxLen; omega, by rw [size_madeCells]; simp, ?_⟩⟩
  rw [toList_madeCells_one, Nat.mul_one, List.take_of_length_le (by simp)]

theorem heap_new_at (w : World) (o : Obj) (k : Nat) (h : w.heap.size = k) : (w.alloc o).heap[k]? = some o := by subst h; exact heap_alloc_new w o

theorem does_new {w : World} {base g1 g2 n : Nat} (h1 : w.heap[g1]? = some (.cells (madeCells #[.bool false] n) 4 (0, 0))) (h2 : w.heap[g2]? = some (.cells (madeCells #[.slice none 0 0] (n + 1)) 61 (0, 0))) (b1 : base ≤ g1) (b2 : base ≤ g2) (hn : n ≤ 5000000) :
    DoesAt base w (.slice (some ⟨g1, 0, none⟩) n n) (.slice (some ⟨g2, 0, none⟩) (n + 1) (n + 1)) (List.replicate n false) (List.replicate (n + 1) []) := by
  have hr := made_own h2 b2 (by omega)
  have hg : ∀ j, j < n + 1 → (List.replicate (n + 1) (Value.slice none 0 0)).getD j undef = .slice none 0 0 := fun j hj => by rw [List.getD_eq_getElem?_getD, List.getElem?_replicate, if_pos hj]; rfl
  refine ⟨by simpa using made_own h1 b1 (by omega), List.replicate (n + 1) (.slice none 0 0), by simpa using hr, ?_, ?_, ?_⟩
  · intro j hj
    rw [hg j (by simpa using hj)]
    simp only [List.getElem_replicate]
    exact World.ownsRow_nil _ _ _ _
  · intro j hj _
    exact hg j (by simpa using hj)
  · intro i j hi hj _
    rw [hg i (by simpa using hi)]
    exact .inl rfl

set_option maxHeartbeats 1000000 in
theorem nothing_any (n : Nat) (w : World) (hn : n ≤ 5000000) :
    Calls Try.prog 99 #[.int .i64 n] w fun e w' => ∃ gv iv, e = .returned (.agg #[gv, iv]) ∧ DoesAt w.heap.size w' gv iv (List.replicate n false) (List.replicate (n + 1) []) ∧ Below w.heap.size w w' := by
  have hm1 := run_make_row' (P := Try.prog) 126 4 (.bool false) 1 Try.underlying126 Try.infoBool rfl .i64 .i64 n (by omega) (by omega)
  have hm2 := run_make_row' (P := Try.prog) 127 61 (.slice none 0 0) 24 Try.underlying127 Try.infoStrs rfl .i64 .i64 (n + 1) (by omega) (by omega)
  have hm3 : ∀ x : World, (Instr.makeSlice 127 (.int .i64 ((n : Int) + 1)) (.int .i64 ((n : Int) + 1))).run Try.prog x = .ok (.slice (some ⟨x.heap.size, 0, none⟩) (n + 1) (n + 1)) (x.alloc (.cells (madeCells #[.slice none 0 0] (n + 1)) 61)) := fun x => hm2 x
  clear hm2
  go_enter Try.func99, Try.ntmps99
  go_wp2
  go_region
  · go_wp2
    refine bodyPost_ret (v := .agg #[.slice (some ⟨w.heap.size + 1, 0, none⟩) n n, .slice (some ⟨w.heap.size + 1 + 1, 0, none⟩) (n + 1) (n + 1)]) (by simp [results, Try.results99, go_sem]) rfl ⟨_, _, rfl, ?_, ?_⟩
    · refine does_new ?_ ?_ (by omega) (by omega) hn
      · exact (Lib.alloc_old _ _ _ (by simp)).trans (heap_new_at _ _ _ (by simp))
      · exact heap_new_at _ _ _ (by simp)
    · exact ((((Below.refl _ _).alloc (Nat.le_refl _) _).alloc (by simp) _).alloc (by simp; omega) _).drew
  · go_wp2
    refine bodyPost_ret (v := .agg #[.slice (some ⟨w.heap.size + 1 + 1, 0, none⟩) n n, .slice (some ⟨w.heap.size + 1, 0, none⟩) (n + 1) (n + 1)]) (by simp [results, Try.results99, go_sem]) rfl ⟨_, _, rfl, ?_, ?_⟩
    · refine does_new ?_ ?_ (by omega) (by omega) hn
      · exact heap_new_at _ _ _ (by simp)
      · exact (Lib.alloc_old _ _ _ (by simp)).trans (heap_new_at _ _ _ (by simp))
    · exact ((((Below.refl _ _).alloc (Nat.le_refl _) _).alloc (by simp) _).alloc (by simp; omega) _).drew

theorem step_append_none {P : Program} {ops : Array Oper} {o : Oper} {a : Act} {w : World} {K : Act → World → Prop} {Q : Exit → Act → World → Prop} {E : Prop} (hgd : o.guard = none) (s x : Operand) (t : TypeId)
    (ho : o.op = .call { callee := .builtin .append, args := #[s, x], argTypes := #[t, t] })
    (base : Nat) (e : TypeId) (i : TypeInfo) (size : Nat) (ht : P.underlying t = some (.slice e)) (hi : P.info? e = some i)
    (v : Value) (n : Nat) (xs : List Value) (hs : a.eval s = v) (hown : w.ownsRow base e size v n xs) (hx : a.eval x = .slice none 0 0)
    (h : K (a.put o.dst v) w) : if Region.wanted o (yielded ops a.tmps) = true then Oper.wp P o a w K Q else E := by
  have hw : Region.wanted o (yielded ops a.tmps) = true := by simp [Region.wanted, hgd]
  rw [if_pos hw]
  have hrun := run_append_owned_none (P := P) (w := w) base t o.type e i size ht hi v n xs hown
  unfold Oper.wp
  simp [execOp, ho, resolve, invoke, builtin, hs, hx, hrun, Result.andThen]
  exact h

theorem getD_set {α : Type} (l : List α) (k j : Nat) (x d : α) (hk : k < l.length) : (l.set k x).getD j d = if k = j then x else l.getD j d := by
  rw [List.getD_eq_getElem?_getD, List.getD_eq_getElem?_getD, List.getElem?_set]
  by_cases h : k = j
  · subst h; simp [hk]
  · simp [h]

/-- one gap's texts have grown, and are laid into their place. -/
theorem ins_push {base : Nat} {w w1 : World} {iv : Value} {X : List (List (List UInt8))} {Vs : List Value} (h : InsAt base w iv X Vs) (k : Nat) (hk : k < X.length) {g cap : Nat} {news : List (List UInt8)} {m : Nat}
    (hm : m = (X[k]).length + news.length) (hnn : X[k] ++ news ≠ [])
    (hown1 : w1.ownsRow base 9 1 (.slice (some ⟨g, 0, none⟩) m cap) m (strV X[k] ++ strV news)) (hgrow : w.grownBy w1 (Vs.getD k undef).ownBlock) (hat : (Vs.getD k undef).ownBlock = some g ∨ g = w.heap.size)
    {gi ci : Nat} (hiv : iv = .slice (some ⟨gi, 0, none⟩) X.length ci) :
    InsAt base (w1.setCell ⟨gi, k, none⟩ (.slice (some ⟨g, 0, none⟩) m cap)) iv (X.set k (X[k] ++ news)) (Vs.set k (.slice (some ⟨g, 0, none⟩) m cap)) := by
  subst hm
  have hVl : Vs.length = X.length := by have := h.row.1; simpa using this
  obtain ⟨cur, hgi, hcap, hmx, hsz, htk, hbg⟩ : ∃ cur : Array Value, w.heap[gi]? = some (.cells cur 61 (0, 0)) ∧ X.length ≤ ci ∧ ci ≤ maxLen ∧ cur.size = ci * 1 ∧ cur.toList.take (X.length * 1) = Vs ∧ base ≤ gi := by
    rcases h.row.2 with ⟨e, _⟩ | ⟨g', cap', cur, e, hb, hg, r1, r2, r3, r4⟩
    · rw [hiv] at e; simp at e
    · rw [hiv] at e
      simp only [Value.slice.injEq, Option.some.injEq, Addr.mk.injEq] at e
      obtain ⟨⟨rfl, _⟩, _, rfl⟩ := e
      exact ⟨cur, hg, r1, r2, r3, r4, hb⟩
  have hne : (Vs.getD k undef).ownBlock ≠ some gi := own_ne (h.each k hk) hgi (by decide)
  have hgi1 : w1.heap[gi]? = some (.cells cur 61 (0, 0)) := by rw [hgrow.block gi (lt_of_blk hgi) (fun e => hne e.symm)]; exact hgi
  have hgne : g ≠ gi := by
    intro e
    have := own_ne hown1 hgi1 (by decide)
    exact this (by rw [e]; rfl)
  have hset := block_set hgi1 k (.slice (some ⟨g, 0, none⟩) ((X[k]).length + news.length) cap)
  refine ⟨?_, ?_, ?_, ?_⟩
  · refine ⟨by simp [hVl], .inr ⟨gi, ci, _, by rw [hiv]; simp, hbg, hset, by simpa using hcap, hmx, by simpa using hsz, ?_⟩⟩
    simp only [Array.toList_setIfInBounds, List.length_set, Nat.mul_one]
    rw [← htk, Nat.mul_one, List.take_set]
  · intro j hj
    have hj' : j < X.length := by simpa using hj
    rw [getD_set _ _ _ _ _ (by omega)]
    by_cases e : k = j
    · subst e
      rw [if_pos rfl]
      have hx : (X.set k (X[k] ++ news))[k] = X[k] ++ news := by simp
      rw [hx, strV_append, List.length_append]
      exact own_set hown1 (by simp [Value.ownBlock, hgne]) _ _
    · rw [if_neg e]
      have hx : (X.set k (X[k] ++ news))[j] = X[j] := by simp [e]
      rw [hx]
      refine own_set ((h.each j hj').kept hgrow (h.apart j k hj' hk (Ne.symm e))) ?_ _ _
      exact own_ne (h.each j hj') hgi (by decide)
  · intro j hj hx
    have hj' : j < X.length := by simpa using hj
    rw [getD_set _ _ _ _ _ (by omega)]
    by_cases e : k = j
    · subst e
      simp at hx
      exact absurd (by simp [hx.1, hx.2]) hnn
    · rw [if_neg e]
      have hx2 : (X.set k (X[k] ++ news))[j] = X[j] := by simp [e]
      rw [hx2] at hx
      exact h.non j hj' hx
  · intro i j hi hj hij
    have hi' : i < X.length := by simpa using hi
    have hj' : j < X.length := by simpa using hj
    have fresh : ∀ q, q < X.length → q ≠ k → (Vs.getD q undef).ownBlock = none ∨ (Vs.getD q undef).ownBlock ≠ some g := by
      intro q hq hqk
      rcases hat with e | e
      · rw [← e]; exact h.apart q k hq hk hqk
      · cases hob : (Vs.getD q undef).ownBlock with
        | none => exact .inl rfl
        | some z =>
          right
          have := (h.each q hq).lt z hob
          simp only [ne_eq, Option.some.injEq]
          omega
    rw [getD_set _ _ _ _ _ (by omega), getD_set _ _ _ _ _ (by omega)]
    by_cases e : k = i
    · subst e
      rw [if_pos rfl, if_neg hij]
      right
      rcases fresh j hj' (Ne.symm hij) with z | z
      · rw [z]; simp [Value.ownBlock]
      · exact fun y => z y.symm
    · rw [if_neg e]
      by_cases e2 : k = j
      · subst e2
        rw [if_pos rfl]
        exact fresh i hi' (Ne.symm e)
      · rw [if_neg e2]
        exact h.apart i j hi' hj' hij

end Go.Proofs.Ytpiankiacbghcaa
