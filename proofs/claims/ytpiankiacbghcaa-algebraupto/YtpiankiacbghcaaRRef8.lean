/-
  The document's answer: Read, where there is an error.
  The document's answer: what Read lays down, character by character.
  The document's answer: Read, where there is no error.
-/
import Derived.Test.YtpiankiacbghcaaRRef5
import Derived.Deep.AppendLies
namespace Go.Proofs.Ytpiankiacbghcaa
open Go.RowKit

theorem read_box {w w1 : World} {o : Obj} (hb : Below (w.alloc o).heap.size (w.alloc o) w1) : w1.heap[w.heap.size]? = some o := by
  rw [hb.block _ (by simp)]
  exact heap_new_at _ _ _ rfl

set_option maxHeartbeats 1000000 in
set_option maxRecDepth 100000 in
theorem Read_err (v : Value) (Q : List Qt) (n : Int) (w : World) (hp : QsAt w v Q) (hL : Q.length ≤ 9223372036854775806) (hr : ∀ q ∈ Q, q.text.length ≤ 1000000000) (_hn1 : -9223372036854775808 ≤ n) (_hn2 : n ≤ 9223372036854775807) (he : errQ Q n ≠ 0) :
    Calls Try.prog 91 #[v, .int .i64 n] w fun e w' => e = .returned (.tuple #[.agg #[.slice none 0 0, .slice none 0 0], .int .i64 (errQ Q n)]) ∧ Below w.heap.size w w' := by
  have HP : Hid (QsAt w v Q ∧ ∀ q ∈ Q, q.text.length ≤ 1000000000) := ⟨hp, hr⟩
  obtain ⟨ao, cap, rfl, hc⟩ := hp
  have HE : Hid (errQ Q n ≠ 0) := he
  clear hc hr he
  by_cases h1 : n < 0
  · have e1 : errQ Q n = 1 := by simp [errQ, argQ, h1]
    rw [e1]
    clear e1
    go_enter Try.func91, Try.ntmps91
    go_wp2
    exact bodyPost_ret (v := .tuple #[.agg #[.slice none 0 0, .slice none 0 0], .int .i64 1]) (by simp [results, Try.results91, go_sem]) rfl ⟨rfl, (Below.refl _ _).alloc (Nat.le_refl _) _⟩
  · by_cases h2 : 1000000 < n
    · have e1 : errQ Q n = 1 := by simp [errQ, argQ, h2]
      rw [e1]
      clear e1
      go_enter Try.func91, Try.ntmps91
      go_wp2
      exact bodyPost_ret (v := .tuple #[.agg #[.slice none 0 0, .slice none 0 0], .int .i64 1]) (by simp [results, Try.results91, go_sem]) rfl ⟨rfl, (Below.refl _ _).alloc (Nat.le_refl _) _⟩
    · obtain ⟨cnt, hcnt⟩ : ∃ z, z = (if decide (40 < Q.length) || !Q.all rightQ then 0 else if !Q.all (fun q => isText q.text) then 0 else sumQ Q) := ⟨_, rfl⟩
      obtain ⟨ce, hce⟩ : ∃ z, z = (if decide (40 < Q.length) || !Q.all rightQ then (1 : Int) else if !Q.all (fun q => isText q.text) then 2 else 0) := ⟨_, rfl⟩
      have hcc : (ce ≠ 0 ∧ errQ Q n = ce) ∨ (ce = 0 ∧ n < cnt ∧ errQ Q n = 3) := by
        have hne := HE.out
        have ha : argQ Q n = (decide (40 < Q.length) || !Q.all rightQ) := by simp [argQ, h1, h2]
        unfold errQ at hne ⊢
        rw [ha] at hne ⊢
        rw [hce, hcnt]
        by_cases p1 : (decide (40 < Q.length) || !Q.all rightQ) = true
        · simp only [p1, if_true] at *; left; decide
        · by_cases p2 : (!Q.all (fun q => isText q.text)) = true
          · simp only [p1, p2, if_true] at *; left; decide
          · simp only [p1, p2] at *
            by_cases p3 : n < sumQ Q
            · right; simp [p3]
            · simp [p3] at hne
      have HC : Hid (cnt = (if decide (40 < Q.length) || !Q.all rightQ then 0 else if !Q.all (fun q => isText q.text) then 0 else sumQ Q) ∧ ce = (if decide (40 < Q.length) || !Q.all rightQ then (1 : Int) else if !Q.all (fun q => isText q.text) then 2 else 0)) := ⟨hcnt, hce⟩
      clear hcnt hce
      rcases hcc with ⟨a, b⟩ | ⟨a, b, c⟩
      · rw [b]
        have a' : (ce != 0) = true := by rw [bne_iff_ne]; exact a
        clear a b
        go_enter Try.func91, Try.ntmps91
        go_wp2_with (go_at_call 108; refine (rcount_any _ Q _ (HP.out.1.below ((Below.refl _ _).alloc (Nat.le_refl _) _) (Nat.le_refl _)) hL HP.out.2).mono ?_; rintro e w1 ⟨rfl, hb1⟩; rw [← HC.out.1, ← HC.out.2]; have k1 : w1.heap[w.heap.size]? = some (.cells #[.slice none 0 0, .slice none 0 0] 129 (0, 0)) := read_box hb1; have c0 : w1.cell? ⟨w.heap.size, 0, none⟩ = some (.slice none 0 0) := Lib.cell_of_heap k1 0; have c1 : w1.cell? ⟨w.heap.size, 1, none⟩ = some (.slice none 0 0) := Lib.cell_of_heap k1 1; have f0 : w1.frozen? ⟨w.heap.size, 0, none⟩ = false := Lib.frozen_of_heap k1 0; have f1 : w1.frozen? ⟨w.heap.size, 1, none⟩ = false := Lib.frozen_of_heap k1 1; have HB1 : Hid (Below w.heap.size w w1) := by_hid (((Below.refl _ _).alloc (Nat.le_refl _) _).trans (hb1.mono (by simp))); clear hb1 k1)
        exact bodyPost_ret (v := .tuple #[.agg #[.slice none 0 0, .slice none 0 0], .int .i64 ce]) (by simp [results, Try.results91, go_sem, c0, c1]) rfl ⟨rfl, (HB1.out.setCell (p := ⟨w.heap.size, 0, none⟩) (Nat.le_refl _) _).setCell (p := ⟨w.heap.size, 1, none⟩) (Nat.le_refl _) _⟩
      · rw [c]
        subst a
        clear c
        go_enter Try.func91, Try.ntmps91
        go_wp2_with (go_at_call 108; refine (rcount_any _ Q _ (HP.out.1.below ((Below.refl _ _).alloc (Nat.le_refl _) _) (Nat.le_refl _)) hL HP.out.2).mono ?_; rintro e w1 ⟨rfl, hb1⟩; rw [← HC.out.1, ← HC.out.2]; have k1 : w1.heap[w.heap.size]? = some (.cells #[.slice none 0 0, .slice none 0 0] 129 (0, 0)) := read_box hb1; have c0 : w1.cell? ⟨w.heap.size, 0, none⟩ = some (.slice none 0 0) := Lib.cell_of_heap k1 0; have c1 : w1.cell? ⟨w.heap.size, 1, none⟩ = some (.slice none 0 0) := Lib.cell_of_heap k1 1; have f0 : w1.frozen? ⟨w.heap.size, 0, none⟩ = false := Lib.frozen_of_heap k1 0; have f1 : w1.frozen? ⟨w.heap.size, 1, none⟩ = false := Lib.frozen_of_heap k1 1; have HB1 : Hid (Below w.heap.size w w1) := by_hid (((Below.refl _ _).alloc (Nat.le_refl _) _).trans (hb1.mono (by simp))); clear hb1 k1)
        exact bodyPost_ret (v := .tuple #[.agg #[.slice none 0 0, .slice none 0 0], .int .i64 3]) (by simp [results, Try.results91, go_sem, c0, c1]) rfl ⟨rfl, (HB1.out.setCell (p := ⟨w.heap.size, 0, none⟩) (Nat.le_refl _) _).setCell (p := ⟨w.heap.size, 1, none⟩) (Nat.le_refl _) _⟩

theorem upU_congr {G G' : List Bool} {Y Y' : List (List (List UInt8))} : ∀ g, (∀ j, j < g → G.getD j false = G'.getD j false) → (∀ j, j < g → Y.getD j [] = Y'.getD j []) → upU G Y g = upU G' Y' g
  | 0, _, _ => rfl
  | g + 1, h1, h2 => by
    rw [upU, upU, upU_congr g (fun j hj => h1 j (by omega)) (fun j hj => h2 j (by omega)), h1 g (by omega), h2 g (by omega)]

theorem getD_set_self {α : Type} (l : List α) (k : Nat) (x d : α) (hk : k < l.length) : (l.set k x).getD k d = x := by rw [getD_set _ _ _ _ _ hk, if_pos rfl]
theorem getD_set_ne {α : Type} (l : List α) (k j : Nat) (x d : α) (h : k ≠ j) : (l.set k x).getD j d = l.getD j d := by
  rw [List.getD_eq_getElem?_getD, List.getD_eq_getElem?_getD, List.getElem?_set_ne h]

/-- what is laid: the units so far, up to the place `a`. -/
structure Laid (U : List Pt) (m a T : Nat) (G : List Bool) (X : List (List (List UInt8))) : Prop where
  gl : G.length = m
  xl : X.length = m + 1
  le : a ≤ m
  un : upU G X a ++ (X.getD a []).map I = U
  gf : ∀ j, a ≤ j → G.getD j false = false
  xe : ∀ j, a < j → X.getD j [] = []
  ne : NE X
  byt : bytesOf X ≤ T

theorem getD_rep {α : Type} (n j : Nat) (x : α) : (List.replicate n x).getD j x = x := by
  rw [List.getD_eq_getElem?_getD, List.getElem?_replicate]
  split <;> rfl

theorem laid_new (m : Nat) : Laid [] m 0 0 (List.replicate m false) (List.replicate (m + 1) []) := by
  refine ⟨by simp, by simp, Nat.zero_le _, ?_, fun j _ => getD_rep _ _ _, fun j _ => getD_rep _ _ _, ?_, ?_⟩
  · rw [getD_rep]; rfl
  · intro x hx c hc
    rw [(List.mem_replicate.1 hx).2] at hc
    simp at hc
  · have : ∀ n, bytesOf (List.replicate n ([] : List (List UInt8))) = 0 := by
      intro n
      induction n with
      | zero => rfl
      | succ n ih => simp only [bytesOf, List.replicate_succ, List.map_cons, List.sum_cons, List.flatten_nil, List.length_nil] at *; omega
    rw [this]; exact Nat.le_refl _

theorem bytes_set (X : List (List (List UInt8))) (k : Nat) (hk : k < X.length) (y : List (List UInt8)) : bytesOf (X.set k (X[k] ++ y)) = bytesOf X + y.flatten.length := by
  induction X generalizing k with
  | nil => simp at hk
  | cons x X ih =>
    cases k with
    | zero => simp [bytesOf]; omega
    | succ k => have := ih k (by simpa using hk); simp only [bytesOf, List.set_cons_succ, List.map_cons, List.sum_cons, List.getElem_cons_succ] at *; omega

theorem Laid.put {U : List Pt} {m a T : Nat} {G : List Bool} {X : List (List (List UInt8))} (h : Laid U m a T G X) (cs : List (List UInt8)) (hc : ∀ c ∈ cs, c ≠ []) (ha : a < X.length) :
    Laid (U ++ cs.map I) m a (T + cs.flatten.length) G (X.set a (X[a] ++ cs)) := by
  have hg : X.getD a [] = X[a] := by rw [List.getD_eq_getElem?_getD, List.getElem?_eq_getElem ha]; rfl
  refine ⟨h.gl, by simpa using h.xl, h.le, ?_, h.gf, fun j hj => ?_, ?_, ?_⟩
  · rw [getD_set_self _ _ _ _ ha, ← h.un, hg, upU_congr (Y' := X) a (fun _ _ => rfl) (fun j hj => getD_set_ne _ _ _ _ _ (by omega))]
    simp
  · rw [getD_set_ne _ _ _ _ _ (by omega)]; exact h.xe j hj
  · intro x hx c hcx
    rcases List.mem_or_eq_of_mem_set hx with hx | rfl
    · exact h.ne x hx c hcx
    · rcases List.mem_append.1 hcx with h1 | h1
      · exact h.ne _ (List.getElem_mem ha) c h1
      · exact hc c h1
  · rw [bytes_set]; have := h.byt; omega

theorem Laid.mark {U : List Pt} {m a T : Nat} {G : List Bool} {X : List (List (List UInt8))} (h : Laid U m a T G X) (b : Bool) (ha : a < m) :
    Laid (U ++ [uB b]) m (a + 1) T (G.set a b) X := by
  refine ⟨by simpa using h.gl, h.xl, ha, ?_, fun j hj => ?_, fun j hj => h.xe j (by omega), h.ne, h.byt⟩
  · rw [h.xe (a + 1) (by omega), upU, getD_set_self _ _ _ _ (by rw [h.gl]; exact ha), upU_congr (G' := G) a (fun j hj => getD_set_ne _ _ _ _ _ (by omega)) (fun _ _ => rfl), ← h.un]
    simp
  · rw [getD_set_ne _ _ _ _ _ (by omega)]; exact h.gf j (by omega)

theorem Laid.upto {U : List Pt} {m a T : Nat} {G : List Bool} {X : List (List (List UInt8))} (h : Laid U m a T G X) : ∀ d, upU G X (a + d) ++ (X.getD (a + d) []).map I = U ++ List.replicate d (K 1)
  | 0 => by simpa using h.un
  | d + 1 => by
    have ih := h.upto d
    rw [← Nat.add_assoc, h.xe (a + d + 1) (by omega), upU, h.gf (a + d) (by omega), ← List.append_assoc, ih, List.replicate_succ']
    simp [uB]

theorem Laid.all {U : List Pt} {m a T : Nat} {G : List Bool} {X : List (List (List UInt8))} (h : Laid U m a T G X) : units G X = U ++ List.replicate (m - a) (K 1) := by
  have := h.upto (m - a)
  rw [show a + (m - a) = m by have := h.le; omega] at this
  rw [units_up G X (by rw [h.xl, h.gl]), h.gl]
  exact this

theorem ne_total {X : List (List (List UInt8))} (h : NE X) : total X ≤ bytesOf X := by
  induction X with
  | nil => simp [total, bytesOf]
  | cons x X ih =>
    have ih := ih (fun y hy => h y (by simp [hy]))
    have hx := h x (by simp)
    have : x.length ≤ x.flatten.length := by
      clear ih h
      induction x with
      | nil => simp
      | cons c x ih =>
        have h1 := ih (fun d hd => hx d (by simp [hd]))
        have h2 : c ≠ [] := hx c (by simp)
        have : 0 < c.length := List.length_pos_iff.2 h2
        simp only [List.flatten_cons, List.length_append, List.length_cons]
        omega
    simp only [total, bytesOf, List.map_cons, List.sum_cons] at *
    omega

def unitsOf (L : List Pt) : List Pt := (L.map (fun p => uP (charsL p.text) p)).flatten
theorem unitsOf_all (L : List Pt) : unitsOf L = allUnits L (L.map (fun p => charsL p.text)) := by
  unfold unitsOf allUnits
  congr 1
  induction L with
  | nil => rfl
  | cons p L ih => simp [ih]
theorem unitsOf_succ (L : List Pt) (i : Nat) (h : i < L.length) : unitsOf (L.take (i + 1)) = unitsOf (L.take i) ++ uP (charsL L[i].text) L[i] := by
  unfold unitsOf
  rw [List.take_succ_eq_append_getElem h, List.map_append, List.flatten_append, List.map_singleton, List.flatten_singleton]

theorem charsL_ne (t : List UInt8) : ∀ c ∈ charsL t, c ≠ [] := fun c hc e => by
  have h1 := ((parseL t).chars c hc).1
  rw [e] at h1
  simp at h1

set_option maxHeartbeats 1000000 in
set_option maxRecDepth 100000 in
theorem Characters_nil (w : World) :
    Calls Try.prog 100 #[.string (bs [])] w fun e w' => e = .returned (.tuple #[.slice none 0 0, .bool true]) ∧ Below w.heap.size w w' := by
  have hz : (bs []).size = 0 := by simp [bs_size]
  go_enter Try.func100, Try.ntmps100
  go_wp2
  go_loopw [4, 5] (fun l a wr => l = .slice none 0 0 ∧ a = .int .i64 0 ∧ Below w.heap.size w wr) (fun _ _ _ => 0)
  case atStart => exact ⟨rfl, rfl, Below.refl _ _⟩
  case round =>
    obtain ⟨rfl, rfl, hB⟩ := hrel
    go_wp2
    go_ret2
    exact ⟨rfl, hB⟩

/-- where Read stands. -/
structure ReadSt (w : World) (b3 : Nat) (gv iv : Value) (G : List Bool) (X : List (List (List UInt8))) (wr : World) : Prop where
  res : wr.heap[w.heap.size]? = some (.cells #[.slice none 0 0, .slice none 0 0] 129 (0, 0))
  new : wr.heap[b3]? = some (.cells #[gv, iv] 129 (0, 0))
  gone : wr.ownsRow (w.heap.size + 1) 4 1 gv G.length (G.map Value.bool)
  ins : ∃ Vs, InsAt (w.heap.size + 1) wr iv X Vs
  below : Below w.heap.size w wr

theorem ReadSt.on {w wr w' : World} {b3 : Nat} {gv iv : Value} {G : List Bool} {X : List (List (List UInt8))} (h : ReadSt w b3 gv iv G X wr) (hb : Below wr.heap.size wr w') : ReadSt w b3 gv iv G X w' := by
  obtain ⟨Vs, hI⟩ := h.ins
  refine ⟨?_, ?_, own_below h.gone hb (Nat.le_refl _), ⟨Vs, hI.below hb (Nat.le_refl _)⟩, h.below.trans (hb.mono h.below.size)⟩
  · rw [hb.block _ (lt_of_blk h.res)]; exact h.res
  · rw [hb.block _ (lt_of_blk h.new)]; exact h.new

theorem ReadSt.drew {w wr : World} {b3 : Nat} {gv iv : Value} {G : List Bool} {X : List (List (List UInt8))} (h : ReadSt w b3 gv iv G X wr) : ReadSt w b3 gv iv G X wr.drew := by
  obtain ⟨Vs, hI⟩ := h.ins
  exact ⟨h.res, h.new, h.gone, ⟨Vs, hI.drew⟩, h.below.drew⟩

theorem ReadSt.push {w wr w9 : World} {gv : Value} {G : List Bool} {Y : List (List (List UInt8))} {b3 gi' ci' : Nat} {Vs' : List Value} (h : ReadSt w b3 gv (.slice (some ⟨gi', 0, none⟩) Y.length ci') G Y wr) (hI : InsAt (w.heap.size + 1) wr (.slice (some ⟨gi', 0, none⟩) Y.length ci') Y Vs')
    (k : Nat) (hk : k < Y.length) {g cap m : Nat} {news : List (List UInt8)} (hm : m = (Y[k]).length + news.length) (hnn : Y[k] ++ news ≠ []) (hown1 : w9.ownsRow (w.heap.size + 1) 9 1 (.slice (some ⟨g, 0, none⟩) m cap) m (strV Y[k] ++ strV news))
    (hgrow : wr.grownBy w9 (Vs'.getD k undef).ownBlock) (hat : (Vs'.getD k undef).ownBlock = some g ∨ g = wr.heap.size) :
    ReadSt w b3 gv (.slice (some ⟨gi', 0, none⟩) Y.length ci') G (Y.set k (Y[k] ++ news)) (w9.setCell ⟨gi', k, none⟩ (.slice (some ⟨g, 0, none⟩) m cap)) := by
  obtain ⟨gi2, ci2, cur2, e2, hb2, hgi2, _⟩ := hI.form (by omega)
  simp only [Value.slice.injEq, Option.some.injEq, Addr.mk.injEq] at e2
  obtain ⟨⟨rfl, _⟩, _, rfl⟩ := e2
  have hrow := hI.each k hk
  have keep : ∀ (q : Nat) (cs : Array Value), wr.heap[q]? = some (.cells cs 129 (0, 0)) → (w9.setCell ⟨gi', k, none⟩ (.slice (some ⟨g, 0, none⟩) m cap)).heap[q]? = some (.cells cs 129 (0, 0)) := by
    intro q cs hq
    have n1 := own_ne hrow hq (by decide)
    have n2 : q ≠ gi' := fun e => by rw [e, hgi2] at hq; simp at hq
    rw [Below.heap_setCell _ _ _ _ n2, hgrow.block q (lt_of_blk hq) (fun e => n1 e.symm)]
    exact hq
  refine ⟨keep _ _ h.res, keep _ _ h.new, ?_, ⟨Vs'.set k (.slice (some ⟨g, 0, none⟩) m cap), ?_⟩, ?_⟩
  · refine own_set (h.gone.kept hgrow (rows_ne h.gone hrow (by decide))) ?_ _ _
    exact own_ne h.gone hgi2 (by decide)
  · have := ins_push hI k hk hm hnn hown1 hgrow hat rfl
    simpa using this
  · refine (h.below.grown hgrow (by have := h.below.size; omega) (fun z hz => by have := (hrow.lt z hz).1; omega)).setCell (p := ⟨gi', k, none⟩) (by show w.heap.size ≤ gi'; omega) _

theorem ReadSt.same {w wr : World} {gv : Value} {G : List Bool} {Y : List (List (List UInt8))} {b3 gi' ci' : Nat} {Vs' : List Value} (h : ReadSt w b3 gv (.slice (some ⟨gi', 0, none⟩) Y.length ci') G Y wr) (hI : InsAt (w.heap.size + 1) wr (.slice (some ⟨gi', 0, none⟩) Y.length ci') Y Vs')
    (k : Nat) (hk : k < Y.length) (v : Value) (hv : Vs'.getD k undef = v) :
    ReadSt w b3 gv (.slice (some ⟨gi', 0, none⟩) Y.length ci') G Y (wr.setCell ⟨gi', k, none⟩ v) := by
  subst hv
  obtain ⟨gi2, ci2, cur2, e2, hb2, hgi2, hcell⟩ := hI.form (by omega)
  simp only [Value.slice.injEq, Option.some.injEq, Addr.mk.injEq] at e2
  obtain ⟨⟨rfl, _⟩, _, rfl⟩ := e2
  have hc := hcell k hk
  rw [Lib.cell_of_heap hgi2] at hc
  have hh := setCell_same_heap hgi2 hc
  refine ⟨by rw [hh]; exact h.res, by rw [hh]; exact h.new, own_heap h.gone hh, ⟨Vs', own_heap hI.row hh, fun j hj => own_heap (hI.each j hj) hh, hI.non, hI.apart⟩, ?_⟩
  exact h.below.setCell (p := ⟨gi', k, none⟩) (by show w.heap.size ≤ gi'; omega) _

theorem ReadSt.mark {w wr : World} {iv : Value} {G : List Bool} {X : List (List (List UInt8))} {b3 gg cg : Nat} (h : ReadSt w b3 (.slice (some ⟨gg, 0, none⟩) G.length cg) iv G X wr) (k : Nat) (hk : k < G.length) (b : Bool) :
    ReadSt w b3 (.slice (some ⟨gg, 0, none⟩) G.length cg) iv (G.set k b) X (wr.setCell ⟨gg, k, none⟩ (.bool b)) := by
  obtain ⟨ao2, cg2, ec, hcells⟩ := gone_form h.gone
  obtain ⟨gg2, cur, rfl, hb2, hgg, _⟩ := hcells (by omega)
  simp only [Value.slice.injEq, Option.some.injEq, Addr.mk.injEq] at ec
  obtain ⟨⟨rfl, _⟩, _, rfl⟩ := ec
  obtain ⟨Vs, hI⟩ := h.ins
  have n1 : ∀ (q : Nat) (cs : Array Value), wr.heap[q]? = some (.cells cs 129 (0, 0)) → q ≠ gg := fun q cs hq e => by rw [e, hgg] at hq; simp at hq
  refine ⟨?_, ?_, ?_, ⟨Vs, own_set hI.row (own_ne hI.row hgg (by decide)) _ _, fun j hj => own_set (hI.each j hj) (own_ne (hI.each j hj) hgg (by decide)) _ _, hI.non, hI.apart⟩, h.below.setCell (p := ⟨gg, k, none⟩) (by show w.heap.size ≤ gg; omega) _⟩
  · rw [Below.heap_setCell _ _ _ _ (n1 _ _ h.res)]; exact h.res
  · rw [Below.heap_setCell _ _ _ _ (n1 _ _ h.new)]; exact h.new
  · have := own_setAt h.gone k (by simpa using hk) (.bool b)
    rw [List.length_set, List.map_set]
    exact this

end Go.Proofs.Ytpiankiacbghcaa
