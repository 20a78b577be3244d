/-
  The document's answer: an operation that is being laid, in memory, for Compose, Transform and Invert.
  The document's answer: Left.
  The document's answer: then.
  What an operation that is being laid holds; where then stands.
  The document's answer: behind: what is left to be laid.
-/
import Derived.Test.YtpiankiacbghcaaRRef9
import Derived.Test.YtpiankiacbghcaaBMath2
import Derived.Deep.DeepCutAuto
namespace Go.Proofs.Ytpiankiacbghcaa
open Go.RowKit

/-- what comes of an append, where it may be of nothing. -/
structure AppRes (base : Nat) (e : TypeId) (size : Nat) (w : World) (v : Value) (n : Nat) (xs : List Value) (m : Nat) (news : List Value) (H : Nat) (v' : Value) (w' : World) : Prop where
  own : w'.ownsRow base e size v' (n + m) (xs ++ news)
  grown : w.grownBy w' v.ownBlock
  lies : v'.ownBlock = v.ownBlock ∨ v'.ownBlock = some H
  nil : n + m = 0 → v' = .slice none 0 0

def SrcAt (w : World) (xv : Value) (m : Nat) (news : List Value) : Prop :=
  (xv = .slice none 0 0 ∧ m = 0) ∨ ∃ ad c, xv = .slice (some ad) m c ∧ 0 < m ∧ ∀ j u, news[j]? = some u → w.cell? (ad.add j) = some u

theorem SrcAt.drew {w : World} {xv : Value} {m : Nat} {news : List Value} (h : SrcAt w xv m news) : SrcAt w.drew xv m news := by
  rcases h with h | ⟨ad, c, e, hm, hc⟩
  · exact .inl h
  · exact .inr ⟨ad, c, e, hm, hc⟩

theorem wp_append_any {P : Program} {w : World} {o : Oper} {a : Act} {K : Act → World → Prop} {Q : Exit → Act → World → Prop} (s x : Operand) (t : TypeId)
    (ho : o.op = .call { callee := .builtin .append, args := #[s, x], argTypes := #[t, t] })
    (base : Nat) (e : TypeId) (i : TypeInfo) (z : Value) (size bytes : Nat) (ht : P.underlying t = some (.slice e)) (hi : P.info? e = some i) (hz : i.zero = some z)
    (hsize : i.size = size) (hby : i.bytes = bytes) (hzs : z.cells.size = size) (hsz : 0 < size)
    (v : Value) (n : Nat) (xs : List Value) (hs : a.eval s = v) (hown : w.ownsRow base e size v n xs) (hnil : n = 0 → v = .slice none 0 0)
    (xv : Value) (m : Nat) (news : List Value) (hx : a.eval x = xv) (hsrc : SrcAt w xv m news) (hl : news.length = m * size) (h1 : ∀ u ∈ news, u.oneCell' = true)
    (h63 : n + m ≤ maxLen) (hbytes : (n + m) * bytes ≤ 140737488355328) (hbase : base ≤ w.heap.size) (H : Nat) (hH : w.heap.size = H)
    (h : ∀ ao cap w', AppRes base e size w v n xs m news H (.slice ao (n + m) cap) w' → K (a.put o.dst (.slice ao (n + m) cap)) w') : o.wp P a w K Q := by
  rcases hsrc with ⟨rfl, rfl⟩ | ⟨ad, c, rfl, hm, hnews⟩
  · have hn : news = [] := List.eq_nil_of_length_eq_zero (by simpa using hl)
    subst hn
    have hrun := run_append_owned_none (P := P) (w := w) base t o.type e i size ht hi v n xs hown
    have hg : w.grownBy w v.ownBlock := ⟨rfl, rfl, rfl, Nat.le_refl _, fun _ _ _ => rfl⟩
    have hk : K (a.put o.dst v) w := by
      rcases hown.2 with ⟨e1, e2⟩ | ⟨g, cap, cur, e1, _⟩
      · have hh := h none 0 w ⟨by rw [List.append_nil]; subst e1 e2; exact hown, hg, .inl (by rw [e1]; rfl), fun _ => by subst e2; rfl⟩
        subst e1 e2
        exact hh
      · have hh := h (some ⟨g, 0, none⟩) cap w ⟨by rw [List.append_nil]; subst e1; exact hown, hg, .inl (by rw [e1]; rfl), fun h0 => by have := hnil (by omega); rw [e1] at this; simp at this⟩
        subst e1
        exact hh
    unfold Oper.wp execOp
    simp [ho, resolve, invoke, builtin, hs, hx, hrun, Result.andThen]
    exact hk
  · exact wp_append_lies w s x t ho base e i z size bytes ht hi hz hsize hby hzs hsz v n xs hs hown ad m c news hx hl hnews h1 hm h63 hbytes hbase H hH fun g cap w' h2 h3 h4 _ =>
      h (some ⟨g, 0, none⟩) cap w' ⟨h2, h3, h4.elim (fun h4 => .inl h4.symm) (fun h4 => .inr (by rw [h4]; rfl)), fun h0 => by omega⟩

theorem step_append_any {P : Program} {w : World} {ops : Array Oper} {o : Oper} {a : Act} {K : Act → World → Prop} {Q : Exit → Act → World → Prop} {E : Prop} (hgd : o.guard = none) (s x : Operand) (t : TypeId)
    (ho : o.op = .call { callee := .builtin .append, args := #[s, x], argTypes := #[t, t] })
    (base : Nat) (e : TypeId) (i : TypeInfo) (z : Value) (size bytes : Nat) (ht : P.underlying t = some (.slice e)) (hi : P.info? e = some i) (hz : i.zero = some z)
    (hsize : i.size = size) (hby : i.bytes = bytes) (hzs : z.cells.size = size) (hsz : 0 < size)
    (v : Value) (n : Nat) (xs : List Value) (hs : a.eval s = v) (hown : w.ownsRow base e size v n xs) (hnil : n = 0 → v = .slice none 0 0)
    (xv : Value) (m : Nat) (news : List Value) (hx : a.eval x = xv) (hsrc : SrcAt w xv m news) (hl : news.length = m * size) (h1 : ∀ u ∈ news, u.oneCell' = true)
    (h63 : n + m ≤ maxLen) (hbytes : (n + m) * bytes ≤ 140737488355328) (hbase : base ≤ w.heap.size) (H : Nat) (hH : w.heap.size = H)
    (h : ∀ ao cap w', AppRes base e size w v n xs m news H (.slice ao (n + m) cap) w' → K (a.put o.dst (.slice ao (n + m) cap)) w') :
    if Region.wanted o (yielded ops a.tmps) = true then Oper.wp P o a w K Q else E := by
  have hw : Region.wanted o (yielded ops a.tmps) = true := by simp [Region.wanted, hgd]
  rw [if_pos hw]
  exact wp_append_any s x t ho base e i z size bytes ht hi hz hsize hby hzs hsz v n xs hs hown hnil xv m news hx hsrc hl h1 h63 hbytes hbase H hH h

/-- where a walk stands that lays an operation: the boxes that it reads; the one that it lays. -/
structure OutSt (lo : Nat) (w : World) (bx : List (Nat × Array Value)) (b3 : Nat) (gv iv : Value) (G : List Bool) (X : List (List (List UInt8))) (wr : World) : Prop where
  boxes : ∀ p ∈ bx, wr.heap[p.1]? = some (.cells p.2 129 (0, 0))
  new : wr.heap[b3]? = some (.cells #[gv, iv] 129 (0, 0))
  gone : wr.ownsRow lo 4 1 gv G.length (G.map Value.bool)
  ins : ∃ Vs, InsAt lo wr iv X Vs
  below : Below w.heap.size w wr
  low : w.heap.size ≤ lo

theorem OutSt.on {lo : Nat} {w wr w' : World} {bx : List (Nat × Array Value)} {b3 : Nat} {gv iv : Value} {G : List Bool} {X : List (List (List UInt8))} (h : OutSt lo w bx b3 gv iv G X wr) (hb : Below wr.heap.size wr w') : OutSt lo w bx b3 gv iv G X w' := by
  obtain ⟨Vs, hI⟩ := h.ins
  exact ⟨fun p hp => (hb.block _ (lt_of_blk (h.boxes p hp))).trans (h.boxes p hp), (hb.block _ (lt_of_blk h.new)).trans h.new, own_below h.gone hb (Nat.le_refl _), ⟨Vs, hI.below hb (Nat.le_refl _)⟩, h.below.trans (hb.mono h.below.size), h.low⟩

theorem OutSt.drew {lo : Nat} {w wr : World} {bx : List (Nat × Array Value)} {b3 : Nat} {gv iv : Value} {G : List Bool} {X : List (List (List UInt8))} (h : OutSt lo w bx b3 gv iv G X wr) : OutSt lo w bx b3 gv iv G X wr.drew := by
  obtain ⟨Vs, hI⟩ := h.ins
  exact ⟨h.boxes, h.new, h.gone, ⟨Vs, hI.drew⟩, h.below.drew, h.low⟩

theorem OutSt.same {lo : Nat} {w wr : World} {bx : List (Nat × Array Value)} {gv : Value} {G : List Bool} {Y : List (List (List UInt8))} {b3 gi' ci' : Nat} {Vs' : List Value} (h : OutSt lo w bx b3 gv (.slice (some ⟨gi', 0, none⟩) Y.length ci') G Y wr) (hI : InsAt lo wr (.slice (some ⟨gi', 0, none⟩) Y.length ci') Y Vs')
    (k : Nat) (hk : k < Y.length) (v : Value) (hv : Vs'.getD k undef = v) :
    OutSt lo w bx b3 gv (.slice (some ⟨gi', 0, none⟩) Y.length ci') G Y (wr.setCell ⟨gi', k, none⟩ v) := by
  subst hv
  obtain ⟨gi2, ci2, cur2, e2, hb2, hgi2, hcell⟩ := hI.form (by omega)
  simp only [Value.slice.injEq, Option.some.injEq, Addr.mk.injEq] at e2
  obtain ⟨⟨rfl, _⟩, _, rfl⟩ := e2
  have hc := hcell k hk
  rw [Lib.cell_of_heap hgi2] at hc
  have hh := setCell_same_heap hgi2 hc
  have hlow := h.low
  exact ⟨fun p hp => by rw [hh]; exact h.boxes p hp, by rw [hh]; exact h.new, own_heap h.gone hh, ⟨Vs', own_heap hI.row hh, fun j hj => own_heap (hI.each j hj) hh, hI.non, hI.apart⟩, h.below.setCell (p := ⟨gi', k, none⟩) (by show w.heap.size ≤ gi'; omega) _, h.low⟩

theorem OutSt.push {lo : Nat} {w wr w9 : World} {bx : List (Nat × Array Value)} {gv : Value} {G : List Bool} {Y : List (List (List UInt8))} {b3 gi' ci' : Nat} {Vs' : List Value} (h : OutSt lo w bx b3 gv (.slice (some ⟨gi', 0, none⟩) Y.length ci') G Y wr) (hI : InsAt lo wr (.slice (some ⟨gi', 0, none⟩) Y.length ci') Y Vs')
    (k : Nat) (hk : k < Y.length) {g cap m : Nat} {news : List (List UInt8)} (hm : m = (Y[k]).length + news.length) (hnn : Y[k] ++ news ≠ []) (hown1 : w9.ownsRow lo 9 1 (.slice (some ⟨g, 0, none⟩) m cap) m (strV Y[k] ++ strV news))
    (hgrow : wr.grownBy w9 (Vs'.getD k undef).ownBlock) (hat : (Vs'.getD k undef).ownBlock = some g ∨ g = wr.heap.size) :
    OutSt lo w bx b3 gv (.slice (some ⟨gi', 0, none⟩) Y.length ci') G (Y.set k (Y[k] ++ news)) (w9.setCell ⟨gi', k, none⟩ (.slice (some ⟨g, 0, none⟩) m cap)) := by
  obtain ⟨gi2, ci2, cur2, e2, hb2, hgi2, _⟩ := hI.form (by omega)
  simp only [Value.slice.injEq, Option.some.injEq, Addr.mk.injEq] at e2
  obtain ⟨⟨rfl, _⟩, _, rfl⟩ := e2
  have hrow := hI.each k hk
  have hlow := h.low
  have keep : ∀ (q : Nat) (cs : Array Value), wr.heap[q]? = some (.cells cs 129 (0, 0)) → (w9.setCell ⟨gi', k, none⟩ (.slice (some ⟨g, 0, none⟩) m cap)).heap[q]? = some (.cells cs 129 (0, 0)) := by
    intro q cs hq
    have n1 := own_ne hrow hq (by decide)
    have n2 : q ≠ gi' := fun e => by rw [e, hgi2] at hq; simp at hq
    rw [Below.heap_setCell _ _ _ _ n2, hgrow.block q (lt_of_blk hq) (fun e => n1 e.symm)]
    exact hq
  refine ⟨fun p hp => keep _ _ (h.boxes p hp), keep _ _ h.new, ?_, ⟨Vs'.set k (.slice (some ⟨g, 0, none⟩) m cap), ?_⟩, ?_, h.low⟩
  · refine own_set (h.gone.kept hgrow (rows_ne h.gone hrow (by decide))) ?_ _ _
    exact own_ne h.gone hgi2 (by decide)
  · have := ins_push hI k hk hm hnn hown1 hgrow hat rfl
    simpa using this
  · refine (h.below.grown hgrow (by have := h.below.size; omega) (fun z hz => by have := (hrow.lt z hz).1; omega)).setCell (p := ⟨gi', k, none⟩) (by show w.heap.size ≤ gi'; omega) _

theorem set_nil {X : List (List (List UInt8))} {k : Nat} (hk : k < X.length) : X.set k (X[k] ++ []) = X := by rw [List.append_nil, List.set_getElem_self]

/-- what an append gave is laid into its gap. -/
theorem OutSt.put {lo : Nat} {w wr w9 : World} {bx : List (Nat × Array Value)} {gv : Value} {G : List Bool} {Y : List (List (List UInt8))} {b3 gi' ci' : Nat} {Vs' : List Value} (h : OutSt lo w bx b3 gv (.slice (some ⟨gi', 0, none⟩) Y.length ci') G Y wr) (hI : InsAt lo wr (.slice (some ⟨gi', 0, none⟩) Y.length ci') Y Vs')
    (k : Nat) (hk : k < Y.length) {news : List (List UInt8)} {v v9 : Value} (hv : Vs'.getD k undef = v) (hA : AppRes lo 9 1 wr v (Y[k]).length (strV Y[k]) news.length (strV news) wr.heap.size v9 w9) :
    OutSt lo w bx b3 gv (.slice (some ⟨gi', 0, none⟩) Y.length ci') G (Y.set k (Y[k] ++ news)) (w9.setCell ⟨gi', k, none⟩ v9) := by
  subst hv
  by_cases hnn : Y[k] ++ news = []
  · obtain ⟨h1, h2⟩ := List.append_eq_nil_iff.1 hnn
    have hv9 := hA.nil (by rw [h1, h2]; rfl)
    have hvk := hI.non k hk h1
    have hg := hA.grown
    rw [hvk] at hg
    have hbel : Below wr.heap.size wr w9 := ⟨hg.os, hg.tape, hg.output, hg.size, fun q hq => hg.block q hq (by simp [Value.ownBlock])⟩
    have h3 := (h.on hbel).same (hI.below hbel (Nat.le_refl _)) k hk v9 (by rw [hvk, hv9])
    rw [h2, set_nil hk]
    exact h3
  · have hpos : 0 < (Y[k]).length + news.length := by
      rw [← List.length_append]
      exact List.length_pos_iff.2 hnn
    obtain ⟨g, cap, e9, _, _⟩ := hA.own.form hpos
    subst e9
    exact h.push hI k hk rfl hnn hA.own hA.grown (by
      rcases hA.lies with hl | hl
      · exact .inl hl.symm
      · exact .inr (Option.some.inj hl))

theorem OutSt.mark {lo : Nat} {w wr : World} {bx : List (Nat × Array Value)} {iv : Value} {G : List Bool} {X : List (List (List UInt8))} {b3 gg cg : Nat} (h : OutSt lo w bx b3 (.slice (some ⟨gg, 0, none⟩) G.length cg) iv G X wr) (k : Nat) (hk : k < G.length) (b : Bool) :
    OutSt lo w bx b3 (.slice (some ⟨gg, 0, none⟩) G.length cg) iv (G.set k b) X (wr.setCell ⟨gg, k, none⟩ (.bool b)) := by
  obtain ⟨ao2, cg2, ec, hcells⟩ := gone_form h.gone
  obtain ⟨gg2, cur, rfl, hb2, hgg, _⟩ := hcells (by omega)
  simp only [Value.slice.injEq, Option.some.injEq, Addr.mk.injEq] at ec
  obtain ⟨⟨rfl, _⟩, _, rfl⟩ := ec
  obtain ⟨Vs, hI⟩ := h.ins
  have hlow := h.low
  have n1 : ∀ (q : Nat) (cs : Array Value), wr.heap[q]? = some (.cells cs 129 (0, 0)) → q ≠ gg := fun q cs hq e => by rw [e, hgg] at hq; simp at hq
  refine ⟨fun p hp => ?_, ?_, ?_, ⟨Vs, own_set hI.row (own_ne hI.row hgg (by decide)) _ _, fun j hj => own_set (hI.each j hj) (own_ne (hI.each j hj) hgg (by decide)) _ _, hI.non, hI.apart⟩, h.below.setCell (p := ⟨gg, k, none⟩) (by show w.heap.size ≤ gg; omega) _, h.low⟩
  · rw [Below.heap_setCell _ _ _ _ (n1 _ _ (h.boxes p hp))]; exact h.boxes p hp
  · rw [Below.heap_setCell _ _ _ _ (n1 _ _ h.new)]; exact h.new
  · have := own_setAt h.gone k (by simpa using hk) (.bool b)
    rw [List.length_set, List.map_set]
    exact this

theorem OutSt.spot {lo : Nat} {w wr : World} {bx : List (Nat × Array Value)} {gv : Value} {G : List Bool} {X : List (List (List UInt8))} {b3 gi ci m : Nat} (h : OutSt lo w bx b3 gv (.slice (some ⟨gi, 0, none⟩) m ci) G X wr) (hx : X.length = m) (a : Nat) (ha : a < X.length) :
    ∃ Vs dao dcap, InsAt lo wr (.slice (some ⟨gi, 0, none⟩) X.length ci) X Vs ∧ Vs.getD a undef = .slice dao (X[a]).length dcap ∧ wr.cell? ⟨gi, a, none⟩ = some (.slice dao (X[a]).length dcap) ∧ wr.frozen? ⟨gi, a, none⟩ = false
      ∧ wr.ownsRow lo 9 1 (.slice dao (X[a]).length dcap) (X[a]).length (strV X[a]) ∧ ((X[a]).length = 0 → Value.slice dao (X[a]).length dcap = .slice none 0 0) ∧ (Value.slice dao (X[a]).length dcap).ownBlock ≠ some b3 ∧ (Value.slice dao (X[a]).length dcap).ownBlock ≠ some gi ∧ gi < wr.heap.size := by
  obtain ⟨Vs, hI⟩ := h.ins
  have hI' : InsAt lo wr (.slice (some ⟨gi, 0, none⟩) X.length ci) X Vs := by rw [hx]; exact hI
  obtain ⟨gi9, ci9, cur9, e9, hb9, hgi9, hcell9⟩ := hI'.form (by omega)
  simp only [Value.slice.injEq, Option.some.injEq, Addr.mk.injEq] at e9
  obtain ⟨⟨rfl, _⟩, _, rfl⟩ := e9
  have hrow := hI'.each a ha
  obtain ⟨dao, dcap, hdf⟩ : ∃ dao dcap, Vs.getD a undef = .slice dao (X[a]).length dcap := by
    rcases hrow.2 with ⟨e, h0⟩ | ⟨g2, cap2, cur2, e, _⟩
    · exact ⟨none, 0, by rw [e, h0]⟩
    · exact ⟨_, _, e⟩
  have hc := hcell9 a ha
  have hn : (X[a]).length = 0 → Vs.getD a undef = .slice none 0 0 := fun h0 => hI'.non a ha (List.eq_nil_of_length_eq_zero h0)
  rw [hdf] at hrow hc hn
  exact ⟨Vs, dao, dcap, hI', hdf, hc, Lib.frozen_of_heap hgi9 a, hrow, hn, own_ne hrow h.new (by decide), own_ne hrow hgi9 (by decide), lt_of_blk hgi9⟩

/-- a gap of an operation that lies there: what an append takes of it. -/
theorem InsAt.src {base : Nat} {w : World} {iv : Value} {X : List (List (List UInt8))} {Vs : List Value} (h : InsAt base w iv X Vs) {j : Nat} (hj : j < X.length) : ∃ sao scap, Vs.getD j undef = .slice sao (X[j]).length scap ∧ SrcAt w (.slice sao (X[j]).length scap) (X[j]).length (strV X[j]) := by
  have hrow := h.each j hj
  rcases hrow.2 with ⟨e, h0⟩ | ⟨g, cap, cur, e, _, hg, _⟩
  · exact ⟨none, 0, by rw [e, h0], .inl ⟨by rw [h0], h0⟩⟩
  · refine ⟨some ⟨g, 0, none⟩, cap, e, .inr ⟨⟨g, 0, none⟩, cap, rfl, ?_, ?_⟩⟩
    · rcases Nat.eq_zero_or_pos (X[j]).length with h0 | h0
      · have := h.non j hj (List.eq_nil_of_length_eq_zero h0)
        rw [this] at e
        simp at e
      · exact h0
    · exact hrow.cells (g := g) (by rw [e]; rfl)

def keptN (G : List Bool) : Nat := (G.filter (fun b => !b)).length
theorem keptN_succ (G : List Bool) (k : Nat) (h : k < G.length) : keptN (G.take (k + 1)) = keptN (G.take k) + (if G[k] then 0 else 1) := by
  rw [List.take_succ_eq_append_getElem h, keptN, keptN, List.filter_append, List.length_append]
  cases G[k] <;> simp
theorem keptN_le (G : List Bool) : keptN G ≤ G.length := List.length_filter_le _ _
theorem total_succ (X : List (List (List UInt8))) (k : Nat) (h : k < X.length) : total (X.take (k + 1)) = total (X.take k) + (X[k]).length := by
  rw [List.take_succ_eq_append_getElem h, total_append]
  simp [total]
theorem total_take (X : List (List (List UInt8))) (k : Nat) : total (X.take k) ≤ total X := by
  conv => rhs; rw [← List.take_append_drop k X]
  rw [total_append]
  omega

set_option maxHeartbeats 1000000 in
set_option maxRecDepth 100000 in
theorem Left_any (base : Nat) (gv iv : Value) (G : List Bool) (X : List (List (List UInt8))) (w : World) (hd : DoesAt base w gv iv G X) (hG : G.length ≤ 1000000) (hX : X.length = G.length + 1) (hT : total X ≤ 10000000) :
    Calls Try.prog 96 #[.agg #[gv, iv]] w fun e w' => e = .returned (.int .i64 ((keptN G + total X : Nat) : Int)) ∧ Below w.heap.size w w' := by
  obtain ⟨ag, cg, rfl, hgc⟩ := gone_form hd.gone
  obtain ⟨Vs, hI⟩ := hd.ins
  obtain ⟨gi, ci, cur, rfl, hbi, hgi, hic⟩ := hI.form (by omega)
  have HG : Hid (0 < G.length → ∃ gg cur, ag = some ⟨gg, 0, none⟩ ∧ base ≤ gg ∧ w.heap[gg]? = some (.cells cur 4 (0, 0)) ∧ ∀ j (hj : j < G.length), w.cell? ⟨gg, j, none⟩ = some (.bool G[j])) := hgc
  have HI : Hid (∀ j (h : j < X.length), ∃ sao scap, w.cell? ⟨gi, j, none⟩ = some (.slice sao (X[j]).length scap)) := fun j hj => by
    obtain ⟨sao, scap, e, _⟩ := hI.src hj
    exact ⟨sao, scap, by rw [hic j hj, e]⟩
  have hgl : gi < w.heap.size := lt_of_blk hgi
  have hkl := keptN_le G
  have HX : Hid (X.length = G.length + 1) := hX
  have hXl : X.length ≤ 1000001 := by omega
  clear hgc hic hI hd hgi hbi hX
  have hbel : Below w.heap.size w (w.alloc (.cells #[.slice ag G.length cg, .slice (some ⟨gi, 0, none⟩) X.length ci] 129)) := (Below.refl _ _).alloc (Nat.le_refl _) _
  have HB : Hid (_) := hbel
  clear hbel
  go_enter Try.func96, Try.ntmps96
  go_wp2
  go_loop [3, 4] (fun n i => ∃ k : Nat, k ≤ G.length ∧ i = .int .i64 k ∧ n = .int .i64 (keptN (G.take k) : Nat)) (fun _ i => G.length - (intOf i).toNat)
  case atStart => exact ⟨0, Nat.zero_le _, rfl, rfl⟩
  case round =>
    obtain ⟨k, hk, rfl, rfl⟩ := hrel
    have hkt : keptN (G.take k) ≤ k := by
      have h1 := keptN_le (G.take k)
      rw [List.length_take] at h1
      omega
    by_cases hlt : k < G.length
    · obtain ⟨gg, cur, rfl, _, hgg, hgc⟩ := HG.out (by omega)
      have hgz := lt_of_blk hgg
      have g0 := (HB.out.cell (p := ⟨gg, k, none⟩) hgz).trans (hgc k hlt)
      have hs := keptN_succ G k hlt
      have hki : (k : Int) < (G.length : Int) := by omega
      clear hgg hgc
      cases hb : G[k]
      · rw [hb] at g0 hs
        have HS : Hid (keptN (G.take (k + 1)) = keptN (G.take k) + 1) := by_hid (by simpa using hs)
        clear hs hb
        go_wp2
        go_round
        case rel => exact ⟨k + 1, by omega, by go_num, by rw [HS.out]; go_num⟩
        case measure => simp [intOf]; omega
      · rw [hb] at g0 hs
        have HS : Hid (keptN (G.take (k + 1)) = keptN (G.take k)) := by_hid (by simpa using hs)
        clear hs hb
        go_wp2
        go_round
        case rel => exact ⟨k + 1, by omega, by go_num, by rw [HS.out]⟩
        case measure => simp [intOf]; omega
    · have hkk : k = G.length := by omega
      subst hkk
      rw [List.take_length]
      clear hkt
      go_wp2
      go_loop [3, 5] (fun n i => ∃ k : Nat, k ≤ X.length ∧ i = .int .i64 k ∧ n = .int .i64 ((keptN G + total (X.take k) : Nat) : Int)) (fun _ i => X.length - (intOf i).toNat)
      case atStart => exact ⟨0, Nat.zero_le _, rfl, rfl⟩
      case round =>
        obtain ⟨k, hk, rfl, rfl⟩ := hrel
        have htt := total_take X k
        by_cases hlt : k < X.length
        · obtain ⟨sao, scap, c0⟩ := HI.out k hlt
          have g0 := (HB.out.cell (p := ⟨gi, k, none⟩) hgl).trans c0
          have hs := total_succ X k hlt
          have hxt := le_total k hlt
          have HS : Hid (total (X.take (k + 1)) = total (X.take k) + (X[k]).length) := hs
          have hki : (k : Int) < (X.length : Int) := by omega
          clear hs c0
          go_wp2
          go_round
          case rel => exact ⟨k + 1, by omega, by go_num, by rw [HS.out]; go_num⟩
          case measure => simp [intOf]; omega
        · have hkk : k = X.length := by omega
          subst hkk
          rw [List.take_length]
          go_wp2
          go_ret
          exact ⟨rfl, HB.out⟩

/-- copy of one operation's marks over another's. -/
theorem wpList_copy_gone {w : World} {ops : Array Oper} {rest : List Oper} {o : Oper} {a : Act} {Q : Exit → Act → World → Prop} (hgd : o.guard = none) (d s : Operand)
    (ho : o.op = .call { callee := .builtin .copy, args := #[d, s], argTypes := #[126, 126] }) {lo base b3 : Nat} {w0 : World} {bx : List (Nat × Array Value)} {gv iv gs : Value} {G0 G : List Bool} {X : List (List (List UInt8))}
    (hl : G0.length = G.length) (hd : a.eval d = gv) (hs : a.eval s = gs) (hst : OutSt lo w0 bx b3 gv iv G0 X w) (hsrc : w.ownsRow base 4 1 gs G.length (G.map Value.bool))
    (h : ∀ w', OutSt lo w0 bx b3 gv iv G X w' → wpList Try.prog ops Q rest (a.put o.dst (goInt G.length)) w') : wpList Try.prog ops Q (o :: rest) a w := by
  obtain ⟨ag, cg, e1, hg1⟩ := gone_form hst.gone
  obtain ⟨sa, cs, e2, hg2⟩ := gone_form hsrc
  subst e1 e2
  by_cases hn : G.length = 0
  · refine wpList_copy_nothing hgd d s 126 126 ho 4 Try.underlying126 (by kernel_rfl) ag sa G0.length cg G.length cs hd hs (by rw [hn]; simp) ?_
    have h1 : G = [] := List.length_eq_zero_iff.1 hn
    have h2 : G0 = [] := List.length_eq_zero_iff.1 (by omega)
    subst h1 h2
    exact h w hst
  · obtain ⟨gg, cur, rfl, hb, hgg, _⟩ := hg1 (by omega)
    obtain ⟨gf, cur2, rfl, _, hgf, hcf⟩ := hg2 (by omega)
    have hcs : cur.size = cg ∧ G0.length ≤ cg ∧ cg ≤ maxLen := by
      rcases hst.gone.2 with ⟨e, _⟩ | ⟨g2, cap2, cur3, e, _, hg3, r1, r2, r3, r4⟩
      · simp at e
      · simp only [Value.slice.injEq, Option.some.injEq, Addr.mk.injEq] at e
        obtain ⟨⟨rfl, _⟩, _, rfl⟩ := e
        rw [hgg] at hg3
        simp only [Option.some.injEq, Obj.cells.injEq] at hg3
        obtain ⟨rfl, _⟩ := hg3
        exact ⟨by omega, r1, r2⟩
    refine wpList_copy_own hgd d s 126 126 ho 4 Try.underlying126 (by kernel_rfl) gg 0 G0.length cg ⟨gf, 0, none⟩ G.length cs hd hs cur 4 hgg (G.map Value.bool) (by rw [List.length_map, hl]; simp) ?_ (by simp; omega) (fun v hv => by obtain ⟨b, _, rfl⟩ := List.mem_map.1 hv; rfl) ?_
    · intro j v hv
      rw [List.getElem?_map] at hv
      cases hq : G[j]? with
      | none => rw [hq] at hv; simp at hv
      | some b =>
        rw [hq] at hv
        simp at hv
        subst hv
        obtain ⟨hj, rfl⟩ := List.getElem?_eq_some_iff.1 hq
        have hadd : (⟨gf, 0, none⟩ : Addr).add j = ⟨gf, j, none⟩ := by unfold Addr.add; split <;> simp_all
        rw [hadd]
        exact hcf j hj
    · have hlen : (G.map Value.bool).length = G.length := List.length_map ..
      rw [hlen]
      refine h _ ?_
      have hlow := hst.low
      have ne : ∀ (q : Nat) (cs : Array Value), w.heap[q]? = some (.cells cs 129 (0, 0)) → q ≠ gg := fun q cs hq e => by rw [e, hgg] at hq; simp at hq
      obtain ⟨Vs, hI⟩ := hst.ins
      refine ⟨fun p hp => ?_, ?_, ?_, ⟨Vs, ins_setRow hI hgg _⟩, below_setRow hst.below (by omega) _, hst.low⟩
      · rw [setRow_other _ _ _ _ (ne _ _ (hst.boxes p hp))]; exact hst.boxes p hp
      · rw [setRow_other _ _ _ _ (ne _ _ hst.new)]; exact hst.new
      · rw [hl]
        exact gone_setRow hgg hb (by simp) (by omega) hcs.2.2 (by simp; omega) (by simp)

/-- what is left of an operation behind a gap's texts. -/
def restD (G : List Bool) (X : List (List (List UInt8))) (g : Nat) : List Un := if h : g < G.length then uN G[g] :: unitsN (G.drop (g + 1)) (X.drop (g + 1)) else []
theorem restD_eq (G : List Bool) (X : List (List (List UInt8))) (g : Nat) (hg : g < X.length) (hx : X.length = G.length + 1) : unitsN (G.drop g) (X.drop g) = (X[g]).map Un.i ++ restD G X g := by
  unfold restD
  split
  · next h => exact unitsN_drop G X g h hx
  · next h =>
    have e : g = G.length := by omega
    subst e
    rw [unitsN_last G X hx, List.append_nil]

/-- a gap's texts, and each of them. -/
theorem DoesAt.gap {base : Nat} {w : World} {gv : Value} {G : List Bool} {X : List (List (List UInt8))} {gi ci : Nat} (h : DoesAt base w gv (.slice (some ⟨gi, 0, none⟩) X.length ci) G X) (j : Nat) (hj : j < X.length) :
    ∃ sao scap, w.cell? ⟨gi, j, none⟩ = some (.slice sao (X[j]).length scap) ∧ SrcAt w (.slice sao (X[j]).length scap) (X[j]).length (strV X[j]) ∧ ∀ i (hi : i < (X[j]).length), ∃ gs, sao = some ⟨gs, 0, none⟩ ∧ w.cell? ⟨gs, i, none⟩ = some (.string (bs (X[j])[i])) := by
  obtain ⟨Vs, hI⟩ := h.ins
  obtain ⟨gi2, ci2, cur, e, _, _, hc⟩ := hI.form (by omega)
  simp only [Value.slice.injEq, Option.some.injEq, Addr.mk.injEq] at e
  obtain ⟨⟨rfl, _⟩, _, rfl⟩ := e
  obtain ⟨sao, scap, hv, hs⟩ := hI.src hj
  refine ⟨sao, scap, by rw [hc j hj, hv], hs, fun i hi => ?_⟩
  have hrow := hI.each j hj
  rw [hv] at hrow
  rcases hrow.2 with ⟨_, h0⟩ | ⟨g, cap, cur2, e2, _⟩
  · omega
  · simp only [Value.slice.injEq, true_and] at e2
    obtain ⟨rfl, rfl⟩ := e2
    refine ⟨g, rfl, ?_⟩
    have hcell := hrow.cells (g := g) rfl i (.string (bs (X[j])[i])) (by simp [strV, List.getElem?_eq_getElem hi])
    have hadd : (⟨g, 0, none⟩ : Addr).add i = ⟨g, i, none⟩ := by unfold Addr.add; split <;> simp_all
    rwa [hadd] at hcell

theorem DoesAt.gapB {base : Nat} {w wr : World} {gv : Value} {G : List Bool} {X : List (List (List UInt8))} {gi ci : Nat} (h : DoesAt base w gv (.slice (some ⟨gi, 0, none⟩) X.length ci) G X) (hb : Below w.heap.size w wr) (j : Nat) (hj : j < X.length) :
    ∃ sao scap, wr.cell? ⟨gi, j, none⟩ = some (.slice sao (X[j]).length scap) ∧ SrcAt wr (.slice sao (X[j]).length scap) (X[j]).length (strV X[j]) ∧ gi < w.heap.size ∧ ∀ i (hi : i < (X[j]).length), ∃ gs, sao = some ⟨gs, 0, none⟩ ∧ gs < w.heap.size ∧ wr.cell? ⟨gs, i, none⟩ = some (.string (bs (X[j])[i])) := by
  obtain ⟨sao, scap, c0, _, cS⟩ := h.gap j hj
  have hgi := World.block_lt_of_cell? w _ c0
  obtain ⟨sao2, scap2, e0, eS, eC⟩ := (h.below hb (Nat.le_refl _)).gap j hj
  have he := (hb.cell (p := ⟨gi, j, none⟩) hgi).symm.trans e0
  rw [c0] at he
  simp only [Option.some.injEq, Value.slice.injEq, true_and] at he
  obtain ⟨rfl, rfl⟩ := he
  refine ⟨sao, scap, e0, eS, hgi, fun i hi => ?_⟩
  obtain ⟨gs, h1, h2⟩ := cS i hi
  have hgs := World.block_lt_of_cell? w _ h2
  exact ⟨gs, h1, hgs, (hb.cell (p := ⟨gs, i, none⟩) hgs).trans h2⟩

theorem DoesAt.sign {base : Nat} {w : World} {iv : Value} {G : List Bool} {X : List (List (List UInt8))} {ag : Option Addr} {cg : Nat} (h : DoesAt base w (.slice ag G.length cg) iv G X) (j : Nat) (hj : j < G.length) :
    ∃ gg, ag = some ⟨gg, 0, none⟩ ∧ w.cell? ⟨gg, j, none⟩ = some (.bool G[j]) := by
  obtain ⟨ao, c, e, hc⟩ := gone_form h.gone
  simp only [Value.slice.injEq, true_and] at e
  obtain ⟨rfl, rfl⟩ := e
  obtain ⟨gg, cur, rfl, _, _, hcc⟩ := hc (by omega)
  exact ⟨gg, rfl, hcc j hj⟩

theorem out_new {w w1 : World} {lo : Nat} {bx : List (Nat × Array Value)} {gv iv : Value} {G : List Bool} {X : List (List (List UInt8))} (hd : DoesAt lo w1 gv iv G X) (hb : Below w.heap.size w w1) (hbx : ∀ p ∈ bx, w1.heap[p.1]? = some (.cells p.2 129 (0, 0))) (hl : w.heap.size ≤ lo) :
    OutSt lo w bx w1.heap.size gv iv G X (w1.alloc (.cells #[gv, iv] 129)) := by
  have hbb : Below w1.heap.size w1 (w1.alloc (.cells #[gv, iv] 129)) := (Below.refl _ _).alloc (Nat.le_refl _) _
  have hd2 := hd.below hbb (Nat.le_refl _)
  exact ⟨fun p hp => (hbb.block _ (lt_of_blk (hbx p hp))).trans (hbx p hp), heap_new_at _ _ _ rfl, hd2.gone, hd2.ins, hb.trans (hbb.mono hb.size), hl⟩

theorem DoesAt.lower {base base' : Nat} {w : World} {gv iv : Value} {G : List Bool} {X : List (List (List UInt8))} (h : DoesAt base w gv iv G X) (hb : base' ≤ base) : DoesAt base' w gv iv G X := by
  obtain ⟨Vs, hI⟩ := h.ins
  exact ⟨own_base h.gone hb, Vs, own_base hI.row hb, fun j hj => own_base (hI.each j hj) hb, hI.non, hI.apart⟩

theorem three_boxes {w w1 : World} {o1 o2 o3 : Obj} (hb : Below (((w.alloc o1).alloc o2).alloc o3).heap.size (((w.alloc o1).alloc o2).alloc o3) w1) :
    w1.heap[w.heap.size]? = some o1 ∧ w1.heap[w.heap.size + 1]? = some o2 ∧ w1.heap[w.heap.size + 1 + 1]? = some o3 ∧ Below w.heap.size w w1 ∧ w.heap.size + 1 + 1 + 1 ≤ w1.heap.size := by
  have hz : (((w.alloc o1).alloc o2).alloc o3).heap.size = w.heap.size + 1 + 1 + 1 := by simp
  rw [hz] at hb
  have hs := hb.size
  rw [hz] at hs
  refine ⟨(hb.block _ (by omega)).trans ((Lib.alloc_old _ _ _ (by simp; omega)).trans ((Lib.alloc_old _ _ _ (by simp)).trans (heap_new_at w o1 _ rfl))), (hb.block _ (by omega)).trans ((Lib.alloc_old _ _ _ (by simp)).trans (heap_new_at (w.alloc o1) o2 _ (by simp))), (hb.block _ (by omega)).trans (heap_new_at ((w.alloc o1).alloc o2) o3 _ (by simp)), ?_, hs⟩
  exact ((((Below.refl _ _).alloc (Nat.le_refl _) _).alloc (by simp) _).alloc (by simp; omega) _).trans (hb.mono (by omega))

theorem OutSt.putAt {lo : Nat} {w wr wb w9 : World} {bx : List (Nat × Array Value)} {gv : Value} {G : List Bool} {Y : List (List (List UInt8))} {b3 gi' ci' m : Nat} (h : OutSt lo w bx b3 gv (.slice (some ⟨gi', 0, none⟩) m ci') G Y wr) (hx : Y.length = m) (k : Nat) (hk : k < Y.length) (hb : Below wr.heap.size wr wb)
    {dao : Option Addr} {dcap : Nat} (hc : wr.cell? ⟨gi', k, none⟩ = some (.slice dao (Y[k]).length dcap)) {news : List (List UInt8)} {v9 : Value} (hA : AppRes lo 9 1 wb (.slice dao (Y[k]).length dcap) (Y[k]).length (strV Y[k]) news.length (strV news) wb.heap.size v9 w9) :
    OutSt lo w bx b3 gv (.slice (some ⟨gi', 0, none⟩) m ci') G (Y.set k (Y[k] ++ news)) (w9.setCell ⟨gi', k, none⟩ v9) := by
  subst hx
  obtain ⟨Vs, hI⟩ := h.ins
  obtain ⟨gi2, ci2, cur, e, _, _, hcell⟩ := hI.form (by omega)
  simp only [Value.slice.injEq, Option.some.injEq, Addr.mk.injEq] at e
  obtain ⟨⟨rfl, _⟩, _, rfl⟩ := e
  have hv : Vs.getD k undef = .slice dao (Y[k]).length dcap := by
    have := hcell k hk
    rw [hc] at this
    exact (Option.some.inj this).symm
  exact (h.on hb).put (hI.below hb (Nat.le_refl _)) k hk hv hA

theorem total_units {G : List Bool} {X : List (List (List UInt8))} (hx : X.length = G.length + 1) (ho : OkU (unitsN G X)) : total X ≤ bytesU (unitsN G X) ∧ bytesOf X = bytesU (unitsN G X) := by
  have h1 : bytesOf X = bytesU (unitsN G X) := (bytes_units G X hx).symm
  have hne : NE X := fun x hxm c hc e => by
    have := (chX_of_units G X hx ho x hxm c hc).1
    rw [e] at this
    simp at this
  exact ⟨by rw [← h1]; exact ne_total hne, h1⟩

theorem OutSt.rowLow {lo : Nat} {w wr : World} {bx : List (Nat × Array Value)} {gv : Value} {G : List Bool} {X : List (List (List UInt8))} {b3 gi ci m : Nat} (h : OutSt lo w bx b3 gv (.slice (some ⟨gi, 0, none⟩) m ci) G X wr) (hx : X.length = m) (hp : 0 < m) : lo ≤ gi ∧ b3 ≠ gi := by
  obtain ⟨Vs, hI⟩ := h.ins
  obtain ⟨g2, c2, _, e, hb, hg, _⟩ := hI.form (by omega)
  simp only [Value.slice.injEq, Option.some.injEq, Addr.mk.injEq] at e
  obtain ⟨⟨rfl, _⟩, _⟩ := e
  refine ⟨hb, fun e => ?_⟩
  have := h.new
  rw [e, hg] at this
  simp at this

/-- where then stands: what is left of the first operation, and where in the second. -/
structure ThenSt (W R : List Un) (Gd Gb : List Bool) (Xb : List (List (List UInt8))) (a g : Nat) (G : List Bool) (X : List (List (List UInt8))) : Prop where
  laid : LaidC W (compU R (unitsN (Gb.drop a) (Xb.drop a))) Gd.length g Gd G X
  cnt : a + outU R = Gb.length

theorem OutSt.cells {lo : Nat} {w wr : World} {b0 b1 b2 b3 : Nat} {x0 x1 y0 y1 z0 z1 gv iv : Value} {G : List Bool} {X : List (List (List UInt8))} (h : OutSt lo w [(b0, #[x0, x1]), (b1, #[y0, y1]), (b2, #[z0, z1])] b3 gv iv G X wr) :
    wr.cell? ⟨b0, 0, none⟩ = some x0 ∧ wr.cell? ⟨b0, 1, none⟩ = some x1 ∧ wr.cell? ⟨b1, 0, none⟩ = some y0 ∧ wr.cell? ⟨b1, 1, none⟩ = some y1 ∧ wr.cell? ⟨b3, 0, none⟩ = some gv ∧ wr.cell? ⟨b3, 1, none⟩ = some iv ∧ b3 < wr.heap.size :=
  ⟨Lib.cell_of_heap (h.boxes _ List.mem_cons_self) 0, Lib.cell_of_heap (h.boxes _ List.mem_cons_self) 1, Lib.cell_of_heap (h.boxes _ (List.mem_cons_of_mem _ List.mem_cons_self)) 0, Lib.cell_of_heap (h.boxes _ (List.mem_cons_of_mem _ List.mem_cons_self)) 1, Lib.cell_of_heap h.new 0, Lib.cell_of_heap h.new 1, lt_of_blk h.new⟩

/-- which of the two. -/
def sel (f : Bool) (p : List Un × List Un) : List Un := if f then p.1 else p.2
/-- what is left to be laid of an operation behind another. -/
def behR (f : Bool) (Gd Go : List Bool) (Xd Xo : List (List (List UInt8))) (g : Nat) : List Un :=
  if f then (traU (unitsN (Gd.drop g) (Xd.drop g)) (unitsN (Go.drop g) (Xo.drop g))).1 else (traU (unitsN (Go.drop g) (Xo.drop g)) (unitsN (Gd.drop g) (Xd.drop g))).2

def behT (f : Bool) (Gd Go : List Bool) (Xd Xo : List (List (List UInt8))) (g : Nat) : List Un :=
  if h : g < Gd.length ∧ g < Go.length then (if Go[g]'h.2 then [] else [uN (Gd[g]'h.1)]) ++ behR f Gd Go Xd Xo (g + 1) else []

theorem behR_first (Gd Go : List Bool) (Xd Xo : List (List (List UInt8))) (g : Nat) (hg : g ≤ Gd.length) (hl : Go.length = Gd.length) (hx : Xd.length = Gd.length + 1) (hy : Xo.length = Go.length + 1) :
    behR true Gd Go Xd Xo g = (Xd[g]'(by omega)).map Un.i ++ (List.replicate (Xo[g]'(by omega)).length Un.k ++ behT true Gd Go Xd Xo g) := by
  by_cases h : g < Gd.length
  · rw [behT, dif_pos ⟨h, by omega⟩, behR, if_pos rfl, trb_step Gd Go Xd Xo g h (by omega) hx hy]
    rfl
  · rw [behT, dif_neg (by omega), behR, if_pos rfl, trb_end Gd Go Xd Xo g (by omega) (by omega) hx hy]
theorem behR_second (Gd Go : List Bool) (Xd Xo : List (List (List UInt8))) (g : Nat) (hg : g ≤ Gd.length) (hl : Go.length = Gd.length) (hx : Xd.length = Gd.length + 1) (hy : Xo.length = Go.length + 1) :
    behR false Gd Go Xd Xo g = List.replicate (Xo[g]'(by omega)).length Un.k ++ ((Xd[g]'(by omega)).map Un.i ++ behT false Gd Go Xd Xo g) := by
  by_cases h : g < Gd.length
  · rw [behT, dif_pos ⟨h, by omega⟩, behR, if_neg (by simp), trb_step Go Gd Xo Xd g (by omega) h hy hx]
    rfl
  · rw [behT, dif_neg (by omega), behR, if_neg (by simp), trb_end Go Gd Xo Xd g (by omega) (by omega) hy hx]
theorem behR_end (f : Bool) (Gd Go : List Bool) (Xd Xo : List (List (List UInt8))) (g : Nat) (hg : Gd.length < g) (hl : Go.length = Gd.length) (hx : Xd.length = Gd.length + 1) (hy : Xo.length = Go.length + 1) : behR f Gd Go Xd Xo g = [] ∧ outU (unitsN (Go.drop g) (Xo.drop g)) = 0 := by
  rw [behR, List.drop_of_length_le (by omega), List.drop_of_length_le (by omega), List.drop_of_length_le (by omega), List.drop_of_length_le (by omega)]
  simp [unitsN, traU, outU]

/-- where behind stands. -/
structure BehSt (W R : List Un) (m : Nat) (a out : Nat) (G : List Bool) (X : List (List (List UInt8))) : Prop where
  laid : LaidC W R m a (List.replicate m false) G X
  cnt : a + out = m

end Go.Proofs.Ytpiankiacbghcaa
