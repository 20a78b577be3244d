/-
  The document's answer: settled.
-/
import Derived.Test.YtpiankiacbghcaaRRef2
import Derived.Deep.DeepCutAuto
namespace Go.Proofs.Ytpiankiacbghcaa
open Go.RowKit

theorem InsAt.below {base : Nat} {w w' : World} {iv : Value} {X : List (List (List UInt8))} {Vs : List Value} (h : InsAt base w iv X Vs) {C : Nat} (hb : Below C w w') (hC : w.heap.size ≤ C) : InsAt base w' iv X Vs :=
  ⟨own_below h.row hb hC, fun j hj => own_below (h.each j hj) hb hC, h.non, h.apart⟩
theorem DoesAt.below {base : Nat} {w w' : World} {gv iv : Value} {G : List Bool} {X : List (List (List UInt8))} (h : DoesAt base w gv iv G X) {C : Nat} (hb : Below C w w') (hC : w.heap.size ≤ C) : DoesAt base w' gv iv G X := by
  obtain ⟨Vs, hi⟩ := h.ins
  exact ⟨own_below h.gone hb hC, Vs, hi.below hb hC⟩

theorem InsAt.form {base : Nat} {w : World} {iv : Value} {X : List (List (List UInt8))} {Vs : List Value} (h : InsAt base w iv X Vs) (hp : 0 < X.length) :
    ∃ gi ci cur, iv = .slice (some ⟨gi, 0, none⟩) X.length ci ∧ base ≤ gi ∧ w.heap[gi]? = some (.cells cur 61 (0, 0)) ∧ ∀ j, j < X.length → w.cell? ⟨gi, j, none⟩ = some (Vs.getD j undef) := by
  have hVl : Vs.length = X.length := by have := h.row.1; simpa using this
  rcases h.row.2 with ⟨_, e⟩ | ⟨g, cap, cur, e, hb, hg, r1, r2, r3, r4⟩
  · omega
  · refine ⟨g, cap, cur, e, hb, hg, fun j hj => ?_⟩
    rw [Lib.cell_of_heap hg]
    have h1 : cur.toList[j]? = Vs[j]? := by rw [← r4, List.getElem?_take_of_lt (by omega)]
    rw [List.getD_eq_getElem?_getD, ← h1, Array.getElem?_toList]
    rw [Array.getElem?_eq_getElem (by omega)]
    rfl

theorem gone_form {base : Nat} {w : World} {gv : Value} {G : List Bool} (h : w.ownsRow base 4 1 gv G.length (G.map Value.bool)) :
    ∃ ao cg, gv = .slice ao G.length cg ∧ (0 < G.length → ∃ gg cur, ao = some ⟨gg, 0, none⟩ ∧ base ≤ gg ∧ w.heap[gg]? = some (.cells cur 4 (0, 0)) ∧ ∀ j (hj : j < G.length), w.cell? ⟨gg, j, none⟩ = some (.bool G[j])) := by
  rcases h.2 with ⟨e, e0⟩ | ⟨g, cap, cur, e, hb, hg, r1, r2, r3, r4⟩
  · exact ⟨none, 0, by rw [e, e0], fun hh => by omega⟩
  · refine ⟨_, _, e, fun _ => ⟨g, cur, rfl, hb, hg, fun j hj => ?_⟩⟩
    rw [Lib.cell_of_heap hg]
    have h1 : cur.toList[j]? = (G.map Value.bool)[j]? := by rw [← r4, List.getElem?_take_of_lt (by omega)]
    rw [← Array.getElem?_toList, h1, List.getElem?_map, List.getElem?_eq_getElem hj]
    rfl

/-- the gaps so far. -/
def upto (X : List (List (List UInt8))) (g : Nat) : List (List (List UInt8)) := X.take g ++ List.replicate (X.length - g) []
theorem upto_length (X : List (List (List UInt8))) (g : Nat) (h : g ≤ X.length) : (upto X g).length = X.length := by simp [upto]; omega
theorem upto_all (X : List (List (List UInt8))) : upto X X.length = X := by simp [upto]
theorem upto_empty (X : List (List (List UInt8))) (g i : Nat) (h : g ≤ i) (hg : g ≤ X.length) : (upto X g).getD i [] = [] := by
  rw [List.getD_eq_getElem?_getD, upto, List.getElem?_append_right (by simp; omega), List.getElem?_replicate]
  split <;> rfl
theorem upto_succ (X : List (List (List UInt8))) (g : Nat) (h : g < X.length) : upto X (g + 1) = (upto X g).set g X[g] := by
  apply List.ext_getElem?
  intro i
  rw [List.getElem?_set, upto_length X g (by omega)]
  by_cases e : g = i
  · subst e
    rw [if_pos rfl, if_pos h, upto, List.getElem?_append_left (by simp; omega), List.getElem?_take_of_lt (by omega), List.getElem?_eq_getElem h]
  · rw [if_neg e]
    by_cases h2 : i < g
    · rw [upto, upto, List.getElem?_append_left (by simp; omega), List.getElem?_append_left (by simp; omega), List.getElem?_take_of_lt (by omega), List.getElem?_take_of_lt h2]
    · rw [upto, upto, List.getElem?_append_right (by simp; omega), List.getElem?_append_right (by simp; omega), List.getElem?_replicate, List.getElem?_replicate]
      simp only [List.length_take]
      by_cases h3 : i < X.length
      · rw [if_pos (by omega), if_pos (by omega)]
      · rw [if_neg (by omega), if_neg (by omega)]

def total (X : List (List (List UInt8))) : Nat := (X.map List.length).sum
theorem le_total {X : List (List (List UInt8))} (j : Nat) (h : j < X.length) : (X[j]).length ≤ total X := by
  induction X generalizing j with
  | nil => simp at h
  | cons x X ih =>
    simp only [total, List.map_cons, List.sum_cons] at *
    cases j with
    | zero => simp
    | succ j => have := ih j (by simpa using h); simp only [List.getElem_cons_succ]; omega

theorem settR_total : ∀ (G : List Bool) (l : List (List (List UInt8))), total (settR G l) ≤ total l
  | [], l => by simp [settR]
  | b :: G, [] => by simp [settR]
  | b :: G, x :: r => by
    have ih := settR_total G r
    simp only [settR]
    cases b
    · simp only [Bool.false_eq_true, if_false, total, List.map_cons, List.sum_cons] at *; omega
    · simp only [if_true]
      cases hs : settR G r with
      | nil => simp [total]
      | cons y r' =>
        rw [hs] at ih
        simp only [total, List.map_cons, List.sum_cons, List.length_append, List.length_nil] at *
        omega

theorem total_append (A B : List (List (List UInt8))) : total (A ++ B) = total A + total B := by simp [total]
theorem total_empty (n : Nat) : total (List.replicate n []) = 0 := by
  induction n with
  | zero => rfl
  | succ n ih => simp only [total, List.replicate_succ, List.map_cons, List.sum_cons, List.length_nil] at *; omega
theorem upto_total (X : List (List (List UInt8))) (g : Nat) : total (upto X g) ≤ total X := by
  have h1 : total X = total (X.take g) + total (X.drop g) := by rw [← total_append, List.take_append_drop]
  rw [upto, total_append, total_empty]
  omega

theorem own_setRow {w : World} {base g : Nat} {e : TypeId} {sz : Nat} {v : Value} {n : Nat} {xs : List Value} (h : w.ownsRow base e sz v n xs) (hne : v.ownBlock ≠ some g) (A : Array Value) : (w.setRow g A).ownsRow base e sz v n xs := by
  refine ⟨h.1, ?_⟩
  rcases h.2 with hn | ⟨g', cap, cur, rfl, hbb, hgg, rest⟩
  · exact .inl hn
  · refine .inr ⟨g', cap, cur, rfl, hbb, ?_, rest⟩
    rw [setRow_other w g g' A (fun e => hne (by simp [Value.ownBlock, e]))]
    exact hgg

theorem ins_setRow {base : Nat} {w : World} {iv : Value} {X : List (List (List UInt8))} {Vs : List Value} (h : InsAt base w iv X Vs) {g : Nat} {cur : Array Value} (hg : w.heap[g]? = some (.cells cur 4 (0, 0))) (A : Array Value) : InsAt base (w.setRow g A) iv X Vs :=
  ⟨own_setRow h.row (own_ne h.row hg (by decide)) A, fun j hj => own_setRow (h.each j hj) (own_ne (h.each j hj) hg (by decide)) A, h.non, h.apart⟩

theorem gone_setRow {w : World} {base g n cap : Nat} {cur A : Array Value} {xs : List Value} (hg : w.heap[g]? = some (.cells cur 4 (0, 0))) (hb : base ≤ g) (hx : xs.length = n) (hn : n ≤ cap) (hc : cap ≤ maxLen) (hs : A.size = cap) (ht : A.toList.take n = xs) :
    (w.setRow g A).ownsRow base 4 1 (.slice (some ⟨g, 0, none⟩) n cap) n xs :=
  ⟨by simpa using hx, .inr ⟨g, cap, A, rfl, hb, setRow_heap w g cur A 4 (0, 0) hg, hn, hc, by simpa using hs, by simpa using ht⟩⟩

/-- where the walk through the gaps stands. -/
structure Sett (w : World) (gv iv gv' iv' : Value) (G : List Bool) (Y : List (List (List UInt8))) (b3 : Nat) (wr : World) : Prop where
  old : wr.heap[w.heap.size]? = some (.cells #[gv, iv] 129 (0, 0))
  res : wr.heap[w.heap.size + 1]? = some (.cells #[.slice none 0 0, .slice none 0 0] 129 (0, 0))
  new : wr.heap[b3]? = some (.cells #[gv', iv'] 129 (0, 0))
  gone : wr.ownsRow (w.heap.size + 1 + 1) 4 1 gv' G.length (G.map Value.bool)
  ins : ∃ Vs', InsAt (w.heap.size + 1 + 1) wr iv' Y Vs'
  below : Below w.heap.size w wr

theorem sett_grow {w wr w9 : World} {gv iv gv' : Value} {G : List Bool} {Y : List (List (List UInt8))} {b3 gi' ci' : Nat} {Vs' : List Value} (h : Sett w gv iv gv' (.slice (some ⟨gi', 0, none⟩) Y.length ci') G Y b3 wr) (hI : InsAt (w.heap.size + 1 + 1) wr (.slice (some ⟨gi', 0, none⟩) Y.length ci') Y Vs')
    (k : Nat) (hk : k < Y.length) {g cap m : Nat} {news : List (List UInt8)} (hm : m = (Y[k]).length + news.length) (hnn : Y[k] ++ news ≠ []) (hown1 : w9.ownsRow (w.heap.size + 1 + 1) 9 1 (.slice (some ⟨g, 0, none⟩) m cap) m (strV Y[k] ++ strV news))
    (hgrow : wr.grownBy w9 (Vs'.getD k undef).ownBlock) (hat : (Vs'.getD k undef).ownBlock = some g ∨ g = wr.heap.size) :
    Sett w gv iv gv' (.slice (some ⟨gi', 0, none⟩) Y.length ci') G (Y.set k (Y[k] ++ news)) b3 (w9.setCell ⟨gi', k, none⟩ (.slice (some ⟨g, 0, none⟩) m cap)) := by
  obtain ⟨gi2, ci2, cur2, e2, hb2, hgi2, _⟩ := hI.form (by omega)
  simp only [Value.slice.injEq, Option.some.injEq, Addr.mk.injEq] at e2
  obtain ⟨⟨rfl, _⟩, _, rfl⟩ := e2
  have hrow := hI.each k hk
  have keep : ∀ (q : Nat) (cs : Array Value), wr.heap[q]? = some (.cells cs 129 (0, 0)) → (w9.setCell ⟨gi', k, none⟩ (.slice (some ⟨g, 0, none⟩) m cap)).heap[q]? = some (.cells cs 129 (0, 0)) := by
    intro q cs hq
    have n1 := own_ne hrow hq (by decide)
    have n2 : q ≠ gi' := fun e => by rw [e, hgi2] at hq; simp at hq
    rw [Below.heap_setCell _ _ _ _ n2, hgrow.block q (lt_of_blk hq) (fun e => n1 e.symm)]
    exact hq
  refine ⟨keep _ _ h.old, keep _ _ h.res, keep _ _ h.new, ?_, ⟨Vs'.set k (.slice (some ⟨g, 0, none⟩) m cap), ?_⟩, ?_⟩
  · refine own_set (h.gone.kept hgrow (rows_ne h.gone hrow (by decide))) ?_ _ _
    exact own_ne h.gone hgi2 (by decide)
  · have := ins_push hI k hk hm hnn hown1 hgrow hat rfl
    simpa using this
  · refine (h.below.grown hgrow (by have := h.below.size; omega) (fun z hz => by have := (hrow.lt z hz).1; omega)).setCell (p := ⟨gi', k, none⟩) (by show w.heap.size ≤ gi'; omega) _

theorem setCell_same_heap {w : World} {b k : Nat} {cs : Array Value} {T : TypeId} {v : Value} (h : w.heap[b]? = some (.cells cs T (0, 0))) (hv : cs[k]? = some v) (q : Nat) : (w.setCell ⟨b, k, none⟩ v).heap[q]? = w.heap[q]? := by
  by_cases e : q = b
  · subst e
    rw [block_set h, h]
    congr 2
    apply Array.ext_getElem?
    intro i
    by_cases hi : k = i
    · subst hi; rw [Array.getElem?_setIfInBounds_self_of_lt (by exact (Array.getElem?_eq_some_iff.1 hv).1), hv]
    · rw [Array.getElem?_setIfInBounds_ne hi]
  · exact Below.heap_setCell _ _ _ _ e

theorem own_heap {w w' : World} {base : Nat} {e : TypeId} {sz : Nat} {v : Value} {n : Nat} {xs : List Value} (h : w.ownsRow base e sz v n xs) (hh : ∀ q : Nat, w'.heap[q]? = w.heap[q]?) : w'.ownsRow base e sz v n xs := by
  refine ⟨h.1, ?_⟩
  rcases h.2 with hn | ⟨g', cap, cur, rfl, hbb, hgg, rest⟩
  · exact .inl hn
  · exact .inr ⟨g', cap, cur, rfl, hbb, by rw [hh]; exact hgg, rest⟩

theorem sett_same {w wr : World} {gv iv gv' : Value} {G : List Bool} {Y : List (List (List UInt8))} {b3 gi' ci' : Nat} {Vs' : List Value} (h : Sett w gv iv gv' (.slice (some ⟨gi', 0, none⟩) Y.length ci') G Y b3 wr) (hI : InsAt (w.heap.size + 1 + 1) wr (.slice (some ⟨gi', 0, none⟩) Y.length ci') Y Vs')
    (k : Nat) (hk : k < Y.length) (v : Value) (hv : Vs'.getD k undef = v) :
    Sett w gv iv gv' (.slice (some ⟨gi', 0, none⟩) Y.length ci') G Y b3 (wr.setCell ⟨gi', k, none⟩ v) := by
  subst hv
  obtain ⟨gi2, ci2, cur2, e2, hb2, hgi2, hcell⟩ := hI.form (by omega)
  simp only [Value.slice.injEq, Option.some.injEq, Addr.mk.injEq] at e2
  obtain ⟨⟨rfl, _⟩, _, rfl⟩ := e2
  have hc := hcell k hk
  rw [Lib.cell_of_heap hgi2] at hc
  have hh := setCell_same_heap hgi2 hc
  refine ⟨by rw [hh]; exact h.old, by rw [hh]; exact h.res, by rw [hh]; exact h.new, own_heap h.gone hh, ⟨Vs', own_heap hI.row hh, fun j hj => own_heap (hI.each j hj) hh, hI.non, hI.apart⟩, ?_⟩
  exact h.below.setCell (p := ⟨gi', k, none⟩) (by show w.heap.size ≤ gi'; omega) _

theorem InsAt.drew {base : Nat} {w : World} {iv : Value} {X : List (List (List UInt8))} {Vs : List Value} (h : InsAt base w iv X Vs) : InsAt base w.drew iv X Vs := ⟨h.row, h.each, h.non, h.apart⟩

theorem Sett.drew {w wr : World} {gv iv gv' iv' : Value} {G : List Bool} {Y : List (List (List UInt8))} {b3 : Nat} (h : Sett w gv iv gv' iv' G Y b3 wr) : Sett w gv iv gv' iv' G Y b3 wr.drew := by
  obtain ⟨Vs, hI⟩ := h.ins
  exact ⟨h.old, h.res, h.new, h.gone, ⟨Vs, hI.row, hI.each, hI.non, hI.apart⟩, h.below.drew⟩

set_option maxHeartbeats 4000000 in
set_option maxRecDepth 100000 in
theorem settled_any (base : Nat) (gv iv : Value) (G : List Bool) (X : List (List (List UInt8))) (w : World) (h : DoesAt base w gv iv G X) (hl : X.length = G.length + 1) (hn : G.length ≤ 5000000) (ht : total X ≤ 1000000000) :
    Calls Try.prog 101 #[.agg #[gv, iv]] w fun e w' => ∃ gv' iv', e = .returned (.agg #[gv', iv']) ∧ DoesAt w.heap.size w' gv' iv' G (settR G X) ∧ Below w.heap.size w w' := by
  obtain ⟨Vs, hins⟩ := h.ins
  obtain ⟨ao, cg, rfl, hgc⟩ := gone_form h.gone
  have HX : Hid (X.length = G.length + 1) := hl
  have HI : Hid (InsAt base w iv X Vs) := hins
  have HG : Hid (w.ownsRow base 4 1 (.slice ao G.length cg) G.length (G.map Value.bool)) := h.gone
  obtain ⟨gi, ci, curi, rfl, hgb, hgi, hgcell⟩ := hins.form (by omega)
  clear h hins hl
  go_enter Try.func101, Try.ntmps101
  go_wp2_with fail
  refine (nothing_any G.length _ hn).mono ?_
  rintro e w1 ⟨gv', iv', rfl, hd1, hb1⟩
  obtain ⟨Vs', hins'⟩ := hd1.ins
  have hsz1 : ((w.alloc (.cells #[.slice ao G.length cg, .slice (some ⟨gi, 0, none⟩) X.length ci] 129)).alloc (.cells #[.slice none 0 0, .slice none 0 0] 129)).heap.size = w.heap.size + 1 + 1 := by simp
  rw [hsz1] at hd1 hb1 hins'
  have hgo := hd1.gone
  have hg1 := gone_form hgo
  simp only [List.length_replicate, List.map_replicate] at hg1 hgo
  obtain ⟨ao', cg', rfl, hg1c⟩ := hg1
  obtain ⟨gi', ci', curi', rfl, hgb', hgi', hgcell'⟩ := hins'.form (by simp)
  have k1 : w1.heap[w.heap.size]? = some (.cells #[.slice ao G.length cg, .slice (some ⟨gi, 0, none⟩) X.length ci] 129 (0, 0)) := by
    rw [hb1.block _ (by omega)]
    exact (Lib.alloc_old _ _ _ (by simp)).trans (heap_new_at _ _ _ rfl)
  have k2 : w1.heap[w.heap.size + 1]? = some (.cells #[.slice none 0 0, .slice none 0 0] 129 (0, 0)) := by
    rw [hb1.block _ (by omega)]
    exact heap_new_at _ _ _ (by simp)
  have hsz : w.heap.size + 1 + 1 ≤ w1.heap.size := by have := hb1.size; rw [hsz1] at this; exact this
  have HB1 : Hid (Below w.heap.size w w1) := (((Below.refl _ _).alloc (Nat.le_refl _) _).alloc (by simp) _).trans (hb1.mono (by omega))
  have HI1 : Hid (InsAt (w.heap.size + 1 + 1) w1 (.slice (some ⟨gi', 0, none⟩) (List.replicate (G.length + 1) ([] : List (List UInt8))).length ci') (List.replicate (G.length + 1) []) Vs') := hins'
  have HK : Hid (w1.heap[w.heap.size]? = some (.cells #[.slice ao G.length cg, .slice (some ⟨gi, 0, none⟩) X.length ci] 129 (0, 0)) ∧ w1.heap[w.heap.size + 1]? = some (.cells #[.slice none 0 0, .slice none 0 0] 129 (0, 0))) := ⟨k1, k2⟩
  have c10 : w1.cell? ⟨w.heap.size, 0, none⟩ = some (.slice ao G.length cg) := Lib.cell_of_heap k1 0
  have hl0 : w.heap.size < w1.heap.size := by omega
  clear hd1 hb1 hins' k1 k2 hsz1
  have e0 : settR G (upto X 0) = List.replicate (G.length + 1) [] := by
    have : upto X 0 = List.replicate (G.length + 1) [] := by simp [upto, HX.out]
    rw [this]
    exact settR_empty G _ (by simp) (fun x hx => (List.mem_replicate.1 hx).2)
  have HE0 : Hid (settR G (upto X 0) = List.replicate (G.length + 1) []) := e0
  clear e0
  go_upto_region 2 with fail
  go_cut [] from 6 (fun wc => Sett w (.slice ao G.length cg) (.slice (some ⟨gi, 0, none⟩) X.length ci) (.slice ao' G.length cg') (.slice (some ⟨gi', 0, none⟩) (G.length + 1) ci') G (settR G (upto X 0)) w1.heap.size wc)
  case first =>
    by_cases hn0 : G.length = 0
    · have HN0 : Hid (G.length = 0) := hn0
      clear hn0
      go_wp2_with (refine wpList_copy_nothing rfl _ _ 126 126 rfl 4 Try.underlying126 (by kernel_rfl) ao' ao G.length cg' G.length cg rfl rfl (by rw [HN0.out]; rfl) ?_)
      go_meet
      have hG : G = [] := List.length_eq_zero_iff.1 HN0.out
      have hbn : Below w1.heap.size w1 (w1.alloc (.cells #[.slice ao' G.length cg', .slice (some ⟨gi', 0, none⟩) (G.length + 1) ci'] 129)) := (Below.refl _ _).alloc (Nat.le_refl _) _
      refine ⟨(Lib.alloc_old w1 _ _ hl0).trans HK.out.1, (Lib.alloc_old w1 _ _ (by omega)).trans HK.out.2, heap_new_at _ _ _ rfl, ?_, ?_, HB1.out.alloc (by omega) _⟩
      · have := own_below hgo hbn (Nat.le_refl _)
        rw [hG] at this ⊢
        simpa using this
      · rw [HE0.out]
        exact ⟨Vs', by simpa using HI1.out.below hbn (Nat.le_refl _)⟩
    · obtain ⟨gg, curg, rfl, hggb, hgg, hggc⟩ := hgc (by omega)
      obtain ⟨gg', curg', rfl, hggb', hgg', _⟩ := hg1c (by omega)
      go_wp2_with (refine wpList_copy_own rfl _ _ 126 126 rfl 4 Try.underlying126 (by kernel_rfl) gg' 0 G.length cg' ⟨gg, 0, none⟩ G.length cg rfl rfl curg' 4 ?h1 (G.map Value.bool) ?h2 ?h3 ?h4 ?h5 ?_)
      case h1 => exact (Lib.alloc_old w1 _ _ (lt_of_blk hgg')).trans hgg'
      case h2 => simp
      case h3 =>
        intro j v hv
        rw [List.getElem?_map] at hv
        cases hq : G[j]? with
        | none => rw [hq] at hv; simp at hv
        | some b =>
          rw [hq] at hv
          simp at hv
          subst hv
          obtain ⟨hj, rfl⟩ := List.getElem?_eq_some_iff.1 hq
          have hadd : (⟨gg, 0, none⟩ : Addr).add j = ⟨gg, j, none⟩ := by unfold Addr.add; split <;> simp_all
          rw [hadd, ← hggc j hj]
          exact ((HB1.out.alloc (by omega) _)).cell (p := ⟨gg, j, none⟩) (lt_of_blk hgg)
      case h4 =>
        have hcs : curg'.size = cg' ∧ G.length ≤ cg' := by
          rcases hgo.2 with ⟨e, _⟩ | ⟨g2, cap2, cur2, e, _, hg2, r1, r2, r3, r4⟩
          · simp at e
          · simp only [Value.slice.injEq, Option.some.injEq, Addr.mk.injEq] at e
            obtain ⟨⟨rfl, _⟩, _, rfl⟩ := e
            rw [hgg'] at hg2
            simp only [Option.some.injEq, Obj.cells.injEq] at hg2
            obtain ⟨rfl, _⟩ := hg2
            exact ⟨by omega, r1⟩
        simp; omega
      case h5 => intro v hv; simp only [List.mem_map] at hv; obtain ⟨b, _, rfl⟩ := hv; rfl
      have hcs : curg'.size = cg' ∧ G.length ≤ cg' ∧ cg' ≤ maxLen := by
        rcases hgo.2 with ⟨e, _⟩ | ⟨g2, cap2, cur2, e, _, hg2, r1, r2, r3, r4⟩
        · simp at e
        · simp only [Value.slice.injEq, Option.some.injEq, Addr.mk.injEq] at e
          obtain ⟨⟨rfl, _⟩, _, rfl⟩ := e
          rw [hgg'] at hg2
          simp only [Option.some.injEq, Obj.cells.injEq] at hg2
          obtain ⟨rfl, _⟩ := hg2
          exact ⟨by omega, r1, r2⟩
      have hgg2 : ∀ o, (w1.alloc o).heap[gg']? = some (.cells curg' 4 (0, 0)) := fun o => (Lib.alloc_old w1 o _ (lt_of_blk hgg')).trans hgg'
      have hgne1 : gg' ≠ w.heap.size := fun e => by rw [e] at hgg'; rw [HK.out.1] at hgg'; simp at hgg'
      have hgne2 : gg' ≠ w.heap.size + 1 := fun e => by rw [e] at hgg'; rw [HK.out.2] at hgg'; simp at hgg'
      have hgne3 : gg' ≠ w1.heap.size := fun e => by have := lt_of_blk hgg'; omega
      go_meet
      refine ⟨?_, ?_, ?_, ?_, ?_, ?_⟩
      · rw [setRow_other _ _ _ _ (Ne.symm hgne1), Lib.alloc_old w1 _ _ hl0]; exact HK.out.1
      · rw [setRow_other _ _ _ _ (Ne.symm hgne2), Lib.alloc_old w1 _ _ (by omega)]; exact HK.out.2
      · rw [setRow_other _ _ _ _ (Ne.symm hgne3)]; exact heap_new_at _ _ _ rfl
      · refine gone_setRow (hgg2 _) hggb' (by simp) hcs.2.1 hcs.2.2 ?_ ?_
        · simp; omega
        · simp
      · have := ins_setRow ((HI1.out.below ((Below.refl w1.heap.size w1).alloc (Nat.le_refl _) _) (Nat.le_refl _))) (hgg2 (.cells #[.slice (some ⟨gg', 0, none⟩) G.length cg', .slice (some ⟨gi', 0, none⟩) (G.length + 1) ci'] 129)) (List.map Value.bool G ++ List.drop G.length curg'.toList).toArray
        rw [HE0.out]
        exact ⟨Vs', by simpa using this⟩
      · exact below_setRow (HB1.out.alloc (by omega) _) (by omega) _
  case rest =>
    have HST : Hid (Sett w (.slice ao G.length cg) (.slice (some ⟨gi, 0, none⟩) X.length ci) (.slice ao' G.length cg') (.slice (some ⟨gi', 0, none⟩) (G.length + 1) ci') G (settR G (upto X 0)) w1.heap.size wc) := hcut
    clear hcut HI1 HK c10
    go_wp2
    go_loopw [4] (fun gx wr => ∃ g : Nat, g ≤ X.length ∧ gx = .int .i64 g ∧ Sett w (.slice ao G.length cg) (.slice (some ⟨gi, 0, none⟩) X.length ci) (.slice ao' G.length cg') (.slice (some ⟨gi', 0, none⟩) (G.length + 1) ci') G (settR G (upto X g)) w1.heap.size wr) (fun gx _ => X.length + 1 - (intOf gx).toNat)
    case atStart => exact ⟨0, Nat.zero_le _, rfl, HST.out⟩
    case round =>
      obtain ⟨g, hg, rfl, hS⟩ := hrel
      have HS : Hid (Sett w (.slice ao G.length cg) (.slice (some ⟨gi, 0, none⟩) X.length ci) (.slice ao' G.length cg') (.slice (some ⟨gi', 0, none⟩) (G.length + 1) ci') G (settR G (upto X g)) w1.heap.size wr) := hS
      have c0 : wr.cell? ⟨w.heap.size, 0, none⟩ = some (.slice ao G.length cg) := Lib.cell_of_heap hS.old 0
      have c1 : wr.cell? ⟨w.heap.size, 1, none⟩ = some (.slice (some ⟨gi, 0, none⟩) X.length ci) := Lib.cell_of_heap hS.old 1
      have hxl1 : X.length ≤ G.length + 1 := by have := HX.out; omega
      have hxl2 : G.length + 1 ≤ X.length := by have := HX.out; omega
      clear hS
      by_cases hlt : g < X.length
      · have HGC : Hid (0 < G.length → ∃ gg, ao = some ⟨gg, 0, none⟩ ∧ ∀ j (hj : j < G.length), wr.cell? ⟨gg, j, none⟩ = some (.bool G[j])) := fun hp0 => by
          obtain ⟨gg, curg, e, hggb, hgg, hggc⟩ := hgc hp0
          exact ⟨gg, e, fun j hj => by rw [← hggc j hj]; exact HS.out.below.cell (p := ⟨gg, j, none⟩) (lt_of_blk hgg)⟩
        go_wp2
        go_loop [5] (fun tx => ∃ t : Nat, t ≤ g ∧ tx = .int .i64 t ∧ ∀ j, t ≤ j → j < g → G[j]? = some true) (fun tx => (intOf tx).toNat)
        case atStart => exact ⟨g, Nat.le_refl _, rfl, fun j h1 h2 => by omega⟩
        case round =>
          obtain ⟨t, htg, rfl, hrun⟩ := hrel
          have HR : Hid (∀ j, t ≤ j → j < g → G[j]? = some true) := hrun
          clear hrun
          by_cases hcont : ∃ u, t = u + 1 ∧ G[u]? = some true
          · obtain ⟨u, rfl, hu⟩ := hcont
            obtain ⟨hul, hue⟩ := List.getElem?_eq_some_iff.1 hu
            obtain ⟨gg, rfl, hcc⟩ := HGC.out (by omega)
            have cu := hcc u hul
            rw [hue] at cu
            clear hcc
            have HU : Hid (G[u]? = some true) := hu
            have hul2 : (u : Int) < (G.length : Int) := by omega
            clear hu hue
            go_wp2
            go_round
            case rel => exact ⟨u, by omega, rfl, fun j h1 h2 => by
              rcases Nat.lt_or_ge j (u + 1) with e | e
              · have : j = u := by omega
                rw [this]; exact HU.out
              · exact HR.out j e h2⟩
            case measure => simp [intOf]
          · have hstop : t = 0 ∨ ∃ u, t = u + 1 ∧ G[u]? = some false := by
              rcases Nat.eq_zero_or_pos t with e | e
              · exact .inl e
              · right
                have hul : t - 1 < G.length := by omega
                refine ⟨t - 1, by omega, ?_⟩
                rw [List.getElem?_eq_getElem hul]
                cases hb : G[t - 1] with
                | false => rfl
                | true => exact absurd ⟨t - 1, by omega, by rw [List.getElem?_eq_getElem hul, hb]⟩ hcont
            have HT : Hid (Tgt G g t) := ⟨htg, HR.out, by
              rcases hstop with e | ⟨u, rfl, hu⟩
              · exact .inl e
              · exact .inr (by simpa using hu)⟩
            obtain ⟨i0, hi0, hz0, hz1, hz2⟩ := info_parts Try.infoStr
            clear hcont
            have hstart : t = 0 ∨ ∃ u gg, t = u + 1 ∧ ao = some ⟨gg, 0, none⟩ ∧ wr.cell? ⟨gg, u, none⟩ = some (.bool false) ∧ (u : Int) < (G.length : Int) := by
              rcases hstop with e | ⟨u, e, hu⟩
              · exact .inl e
              · obtain ⟨hul, hue⟩ := List.getElem?_eq_some_iff.1 hu
                obtain ⟨gg, ea, hcc⟩ := HGC.out (by omega)
                have cu := hcc u hul
                rw [hue] at cu
                exact .inr ⟨u, gg, e, ea, cu, by omega⟩
            clear hstop
            obtain ⟨Vs9, hI9⟩ := HS.out.ins
            have hYl : (settR G (upto X g)).length = G.length + 1 := settR_length G _ (by rw [upto_length X g hg]; exact HX.out)
            have HYL : Hid ((settR G (upto X g)).length = G.length + 1) := hYl
            have htY : t < (settR G (upto X g)).length := by omega
            obtain ⟨Y, hY⟩ : ∃ Y, Y = settR G (upto X g) := ⟨_, rfl⟩
            rw [← hY] at hI9 hYl htY
            have HIN : Hid (InsAt (w.heap.size + 1 + 1) wr (.slice (some ⟨gi', 0, none⟩) Y.length ci') Y Vs9) := by rw [hYl]; exact hI9
            have HSS : Hid (Sett w (.slice ao G.length cg) (.slice (some ⟨gi, 0, none⟩) X.length ci) (.slice ao' G.length cg') (.slice (some ⟨gi', 0, none⟩) Y.length ci') G Y w1.heap.size wr) := by rw [hYl, hY]; exact HS.out
            have HADD : Hid (settR G (upto X (g + 1)) = Y.set t (Y[t] ++ X[g])) := by
              show _ = _
              rw [upto_succ X g hlt, settR_add G (upto X g) g t X[g] (by rw [upto_length X g hg]; exact HX.out) (by have := HX.out; omega) (fun i hi => upto_empty X g i hi hg) HT.out, ← hY]
              rw [List.getD_eq_getElem?_getD, List.getElem?_eq_getElem htY]; rfl
            have hYtot : total Y ≤ 1000000000 := by have h1 := settR_total G (upto X g); have h2 := upto_total X g; rw [← hY] at h1; omega
            have hYt := le_total t htY
            have hXt := le_total g hlt
            obtain ⟨gi9, ci9, cur9, e9, hb9, hgi9, hcell9⟩ := HIN.out.form (by omega)
            simp only [Value.slice.injEq, Option.some.injEq, Addr.mk.injEq] at e9
            obtain ⟨⟨rfl, _⟩, _, rfl⟩ := e9
            have k1 : wr.cell? ⟨gi', t, none⟩ = some (Vs9.getD t undef) := hcell9 t htY
            have kf : wr.frozen? ⟨gi', t, none⟩ = false := Lib.frozen_of_heap hgi9 t
            have k2 : wr.cell? ⟨gi, g, none⟩ = some (Vs.getD g undef) := (HS.out.below.cell (p := ⟨gi, g, none⟩) (lt_of_blk hgi)).trans (hgcell g hlt)
            have c31 : wr.cell? ⟨w1.heap.size, 1, none⟩ = some (.slice (some ⟨gi', 0, none⟩) (G.length + 1) ci') := Lib.cell_of_heap HS.out.new 1
            have hdrow := HIN.out.each t htY
            have hsrow := own_below (HI.out.each g hlt) HS.out.below (Nat.le_refl _)
            obtain ⟨dv9, hdv⟩ : ∃ dv9, dv9 = Vs9.getD t undef := ⟨_, rfl⟩
            obtain ⟨sv9, hsv⟩ : ∃ sv9, sv9 = Vs.getD g undef := ⟨_, rfl⟩
            rw [← hdv] at k1 hdrow
            rw [← hsv] at k2 hsrow
            have HDV : Hid (dv9 = Vs9.getD t undef) := hdv
            have HSV : Hid (sv9 = Vs.getD g undef) := hsv
            have HDR : Hid (wr.ownsRow (w.heap.size + 1 + 1) 9 1 dv9 (Y[t]).length (strV Y[t])) := hdrow
            have hn1 : dv9.ownBlock ≠ some w1.heap.size := own_ne hdrow HS.out.new (by decide)
            have hn2 : dv9.ownBlock ≠ some gi' := own_ne hdrow hgi9 (by decide)
            have hl3 : w1.heap.size < wr.heap.size := lt_of_blk HS.out.new
            have hl4 : gi' < wr.heap.size := lt_of_blk hgi9
            have ht1 : (t : Int) < (G.length : Int) + 1 := by omega
            have hg1 : (g : Int) < (X.length : Int) := by omega
            obtain ⟨dao, dcap, hdf⟩ : ∃ dao dcap, dv9 = .slice dao (Y[t]).length dcap := by
              rcases hdrow.2 with ⟨e, h0⟩ | ⟨g2, cap2, cur2, e, _⟩
              · exact ⟨none, 0, by rw [e, h0]⟩
              · exact ⟨_, _, e⟩
            have hszr := HS.out.below.size
            by_cases hxe : X[g] = []
            · have hsn : sv9 = .slice none 0 0 := by rw [hsv]; exact HI.out.non g hlt hxe
              subst hsn
              subst hdf
              have HXE : Hid (X[g] = []) := hxe
              clear hxe hsv hdv hI9 hcell9 hsrow hdrow hY
              have HFIN : Hid (settR G (upto X (g + 1)) = Y) := by
                show _ = _
                rw [HADD.out, HXE.out, List.append_nil, List.set_getElem_self]
              have HS2 : Hid (Sett w (.slice ao G.length cg) (.slice (some ⟨gi, 0, none⟩) X.length ci) (.slice ao' G.length cg') (.slice (some ⟨gi', 0, none⟩) (G.length + 1) ci') G Y w1.heap.size (wr.setCell ⟨gi', t, none⟩ (.slice dao (Y[t]).length dcap)).drew) := by
                have := (sett_same HSS.out HIN.out t htY _ HDV.out.symm).drew
                rw [hYl] at this
                exact this
              rcases hstart with e0 | ⟨u, gg, e0, rfl, cu, hu⟩
              case inl =>
                have hd0 : ¬ 0 < t := by omega
                clear e0
                go_wp2
                go_region_law ((refine step_append_none (by rfl) _ _ _ (by rfl) (w.heap.size + 1 + 1) 9 i0 1 Try.underlying61 hi0 _ _ _ (by rfl) (HDR.out) (by rfl) ?_))
                all_goals
                  go_wp2
                  go_roundw
                  case rel => exact ⟨g + 1, by omega, by go_num, by rw [HFIN.out]; exact HS2.out⟩
                  case measure => simp [intOf]; omega
              case inr =>
                have hd0 : 0 < t := by omega
                have cu1 : wr.cell? ⟨gg, t - 1, none⟩ = some (.bool false) := by rw [e0]; simpa using cu
                have cu2 : t - 1 < G.length := by omega
                clear e0 cu hu
                go_wp2
                go_region_law ((refine step_append_none (by rfl) _ _ _ (by rfl) (w.heap.size + 1 + 1) 9 i0 1 Try.underlying61 hi0 _ _ _ (by rfl) (HDR.out) (by rfl) ?_))
                all_goals
                  go_wp2
                  go_roundw
                  case rel => exact ⟨g + 1, by omega, by go_num, by rw [HFIN.out]; exact HS2.out⟩
                  case measure => simp [intOf]; omega
            · have hspos : 0 < (X[g]).length := by
                cases hxx : X[g] with
                | nil => exact absurd hxx hxe
                | cons a b => simp
              obtain ⟨gs, scap, hsf⟩ : ∃ gs scap, sv9 = .slice (some ⟨gs, 0, none⟩) (X[g]).length scap := by
                rcases hsrow.2 with ⟨e, h0⟩ | ⟨g2, cap2, cur2, e, _⟩
                · omega
                · exact ⟨_, _, e⟩
              have HNEW : Hid (∀ j u, (strV X[g])[j]? = some u → wr.cell? ((⟨gs, 0, none⟩ : Addr).add j) = some u) := hsrow.cells (g := gs) (by rw [hsf]; rfl)
              have HNN : Hid (Y[t] ++ X[g] ≠ []) := fun e => hxe (List.append_eq_nil_iff.1 e).2
              subst hsf
              subst hdf
              clear hxe hsv hdv hI9 hcell9 hsrow hdrow hY
              rcases hstart with e0 | ⟨u, gg, e0, rfl, cu, hu⟩
              case inl =>
                have hd0 : ¬ 0 < t := by omega
                clear e0
                go_wp2
                go_region_law ((refine step_append_lies _ (by rfl) _ _ _ (by rfl) (w.heap.size + 1 + 1) 9 i0 _ 1 16 Try.underlying61 hi0 hz0 hz1 hz2 rfl (by omega) (.slice dao (Y[t]).length dcap) _ _ (by rfl) (HDR.out.drew) ⟨gs, 0, none⟩ (X[g]).length scap (strV X[g]) (by rfl) (by simp [strV_length]) (HNEW.out) (strV_one _) (by omega) (by unfold maxLen; omega) (by omega) (by simp; omega) wr.heap.size (by simp) ?_; intro gn cap9 w9 hown9 hgrow9 hat9 hlt9; have d0 : w9.cell? ⟨gi', t, none⟩ = some (.slice dao (Y[t]).length dcap) := (hgrow9.cell_far _ (by simp; omega) (Ne.symm hn2)).trans k1; have d1 : w9.frozen? ⟨gi', t, none⟩ = false := (hgrow9.frozen_far _ (by simp; omega) (Ne.symm hn2)).trans kf; have d2 : w9.cell? ⟨w1.heap.size, 1, none⟩ = some (.slice (some ⟨gi', 0, none⟩) (G.length + 1) ci') := (hgrow9.cell_far _ (by simp; omega) (Ne.symm hn1)).trans c31; have H9 : Hid (w9.ownsRow (w.heap.size + 1 + 1) 9 1 (.slice (some ⟨gn, 0, none⟩) ((Y[t]).length + (X[g]).length) cap9) ((Y[t]).length + (X[g]).length) (strV Y[t] ++ strV X[g]) ∧ wr.drew.grownBy w9 (Value.slice dao (Y[t]).length dcap).ownBlock ∧ ((Value.slice dao (Y[t]).length dcap).ownBlock = some gn ∨ gn = wr.heap.size)) := ⟨hown9, hgrow9, hat9⟩; clear hown9 hgrow9 hat9))
                all_goals
                  go_wp2
                  go_roundw
                  case rel =>
                    refine ⟨g + 1, by omega, by go_num, ?_⟩
                    obtain ⟨q1, q2, q3⟩ := H9.out
                    have hh := sett_grow HSS.out.drew HIN.out.drew t htY rfl HNN.out q1 (by rw [← HDV.out]; exact q2) (by rw [← HDV.out]; exact q3)
                    rw [hYl] at hh
                    rw [HADD.out]
                    exact hh
                  case measure => simp [intOf]; omega
              case inr =>
                have hd0 : 0 < t := by omega
                have cu1 : wr.cell? ⟨gg, t - 1, none⟩ = some (.bool false) := by rw [e0]; simpa using cu
                have cu2 : t - 1 < G.length := by omega
                clear e0 cu hu
                go_wp2
                go_region_law ((refine step_append_lies _ (by rfl) _ _ _ (by rfl) (w.heap.size + 1 + 1) 9 i0 _ 1 16 Try.underlying61 hi0 hz0 hz1 hz2 rfl (by omega) (.slice dao (Y[t]).length dcap) _ _ (by rfl) (HDR.out.drew) ⟨gs, 0, none⟩ (X[g]).length scap (strV X[g]) (by rfl) (by simp [strV_length]) (HNEW.out) (strV_one _) (by omega) (by unfold maxLen; omega) (by omega) (by simp; omega) wr.heap.size (by simp) ?_; intro gn cap9 w9 hown9 hgrow9 hat9 hlt9; have d0 : w9.cell? ⟨gi', t, none⟩ = some (.slice dao (Y[t]).length dcap) := (hgrow9.cell_far _ (by simp; omega) (Ne.symm hn2)).trans k1; have d1 : w9.frozen? ⟨gi', t, none⟩ = false := (hgrow9.frozen_far _ (by simp; omega) (Ne.symm hn2)).trans kf; have d2 : w9.cell? ⟨w1.heap.size, 1, none⟩ = some (.slice (some ⟨gi', 0, none⟩) (G.length + 1) ci') := (hgrow9.cell_far _ (by simp; omega) (Ne.symm hn1)).trans c31; have H9 : Hid (w9.ownsRow (w.heap.size + 1 + 1) 9 1 (.slice (some ⟨gn, 0, none⟩) ((Y[t]).length + (X[g]).length) cap9) ((Y[t]).length + (X[g]).length) (strV Y[t] ++ strV X[g]) ∧ wr.drew.grownBy w9 (Value.slice dao (Y[t]).length dcap).ownBlock ∧ ((Value.slice dao (Y[t]).length dcap).ownBlock = some gn ∨ gn = wr.heap.size)) := ⟨hown9, hgrow9, hat9⟩; clear hown9 hgrow9 hat9))
                all_goals
                  go_wp2
                  go_roundw
                  case rel =>
                    refine ⟨g + 1, by omega, by go_num, ?_⟩
                    obtain ⟨q1, q2, q3⟩ := H9.out
                    have hh := sett_grow HSS.out.drew HIN.out.drew t htY rfl HNN.out q1 (by rw [← HDV.out]; exact q2) (by rw [← HDV.out]; exact q3)
                    rw [hYl] at hh
                    rw [HADD.out]
                    exact hh
                  case measure => simp [intOf]; omega
      · have hgg0 : g = X.length := by omega
        subst hgg0
        have c30 : wr.cell? ⟨w1.heap.size, 0, none⟩ = some (.slice ao' G.length cg') := Lib.cell_of_heap HS.out.new 0
        have c31 : wr.cell? ⟨w1.heap.size, 1, none⟩ = some (.slice (some ⟨gi', 0, none⟩) (G.length + 1) ci') := Lib.cell_of_heap HS.out.new 1
        have c20 : wr.cell? ⟨w.heap.size + 1, 0, none⟩ = some (.slice none 0 0) := Lib.cell_of_heap HS.out.res 0
        have c21 : wr.cell? ⟨w.heap.size + 1, 1, none⟩ = some (.slice none 0 0) := Lib.cell_of_heap HS.out.res 1
        have f20 : wr.frozen? ⟨w.heap.size + 1, 0, none⟩ = false := Lib.frozen_of_heap HS.out.res 0
        have f21 : wr.frozen? ⟨w.heap.size + 1, 1, none⟩ = false := Lib.frozen_of_heap HS.out.res 1
        go_wp2
        refine bodyPost_ret (v := .agg #[.slice ao' G.length cg', .slice (some ⟨gi', 0, none⟩) (G.length + 1) ci']) (by simp [results, Try.results101, go_sem, c20, c21]) rfl ⟨_, _, rfl, ?_, ?_⟩
        · obtain ⟨Vs9, hI9⟩ := HS.out.ins
          rw [upto_all] at hI9
          have n0 := own_ne HS.out.gone HS.out.res (by decide)
          have n1 := own_ne hI9.row HS.out.res (by decide)
          refine ⟨own_base (own_set (own_set HS.out.gone n0 _ _) n0 _ _) (by omega), Vs9, own_base (own_set (own_set hI9.row n1 _ _) n1 _ _) (by omega), fun j hj => ?_, hI9.non, hI9.apart⟩
          have n2 := own_ne (hI9.each j hj) HS.out.res (by decide)
          exact own_base (own_set (own_set (hI9.each j hj) n2 _ _) n2 _ _) (by omega)
        · exact (HS.out.below.setCell (p := ⟨w.heap.size + 1, 0, none⟩) (Nat.le_succ _) _).setCell (p := ⟨w.heap.size + 1, 1, none⟩) (Nat.le_succ _) _

end Go.Proofs.Ytpiankiacbghcaa
