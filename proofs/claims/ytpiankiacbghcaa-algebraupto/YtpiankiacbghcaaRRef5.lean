/-
  The document's answer: sizes of what with lays; units up to a gap.
  The document's answer: Parts.
-/
import Derived.Test.YtpiankiacbghcaaRRef3
import Derived.Test.YtpiankiacbghcaaRRef4
import Derived.Test.YtpiankiacbghcaaMade
namespace Go.Proofs.Ytpiankiacbghcaa
open Go.RowKit

theorem withP_size (L : List Pt) (u : Pt) : nums (withP L u) = nums L + u.num ∧ tlen (withP L u) = tlen L + u.text.length ∧ (withP L u).length ≤ L.length + 1 := by
  rcases List.eq_nil_or_concat L with e | ⟨M, p, e⟩
  · subst e
    simp [withP, nums, tlen]
  · rw [List.concat_eq_append] at e
    subst e
    rw [withP_snoc]
    split
    · simp [nums, tlen]; omega
    · simp [nums, tlen]; omega

theorem foldP_size (U : List Pt) : ∀ L : List Pt, nums (U.foldl withP L) = nums L + nums U ∧ tlen (U.foldl withP L) = tlen L + tlen U ∧ (U.foldl withP L).length ≤ L.length + U.length := by
  induction U with
  | nil => intro L; simp [nums, tlen]
  | cons u U ih =>
    intro L
    obtain ⟨a, b, c⟩ := ih (withP L u)
    obtain ⟨d, e, f⟩ := withP_size L u
    have h1 : nums (u :: U) = u.num + nums U := by simp [nums]
    have h2 : tlen (u :: U) = u.text.length + tlen U := by simp [tlen]
    rw [List.foldl_cons, List.length_cons]
    omega

/-- the units of the gaps and characters below a place. -/
def upU (G : List Bool) (Y : List (List (List UInt8))) : Nat → List Pt
  | 0 => []
  | g + 1 => upU G Y g ++ ((Y.getD g []).map I ++ [uB (G.getD g false)])

theorem upU_cons (b : Bool) (G : List Bool) (x : List (List UInt8)) (Y : List (List (List UInt8))) : ∀ g, upU (b :: G) (x :: Y) (g + 1) = x.map I ++ (uB b :: upU G Y g)
  | 0 => by simp [upU]
  | g + 1 => by
    rw [upU, upU_cons b G x Y g]
    simp [upU]

theorem units_up : ∀ (G : List Bool) (Y : List (List (List UInt8))), Y.length = G.length + 1 → units G Y = upU G Y G.length ++ (Y.getD G.length []).map I
  | [], [], h => by simp at h
  | b :: G, [], h => by simp at h
  | [], x :: Y, _ => by simp [units, upU]
  | b :: G, x :: Y, h => by
    have ih := units_up G Y (by simpa using h)
    rw [List.length_cons, upU_cons, units, ih]
    simp

def bytesOf (Y : List (List (List UInt8))) : Nat := (Y.map (fun x => x.flatten.length)).sum

theorem tlen_I (x : List (List UInt8)) : tlen (x.map I) = x.flatten.length ∧ nums (x.map I) = 0 := by
  induction x with
  | nil => simp [tlen, nums]
  | cons c x ih => simp only [tlen, nums, List.map_cons, List.sum_cons, List.flatten_cons, List.length_append, I] at *; omega

theorem upU_size (G : List Bool) (Y : List (List (List UInt8))) : ∀ g, g ≤ Y.length → nums (upU G Y g) ≤ g ∧ tlen (upU G Y g) ≤ bytesOf (Y.take g) ∧ (upU G Y g).length ≤ total (Y.take g) + g
  | 0, _ => by simp [upU, nums, tlen, bytesOf, total]
  | g + 1, h => by
    obtain ⟨a, b, c⟩ := upU_size G Y g (by omega)
    have hg : Y.getD g [] = Y[g]'(by omega) := by rw [List.getD_eq_getElem?_getD, List.getElem?_eq_getElem (by omega)]; rfl
    obtain ⟨d, e⟩ := tlen_I (Y[g]'(by omega))
    have hu : nums [uB (G.getD g false)] = 1 ∧ tlen [uB (G.getD g false)] = 0 := by cases G.getD g false <;> simp [nums, tlen, uB, K, D]
    have h1 : bytesOf (Y.take (g + 1)) = bytesOf (Y.take g) + (Y[g]'(by omega)).flatten.length := by
      rw [List.take_succ_eq_append_getElem (by omega)]; simp only [bytesOf, List.map_append, List.map_cons, List.map_nil, List.sum_append, List.sum_cons, List.sum_nil]; omega
    have h2 : total (Y.take (g + 1)) = total (Y.take g) + (Y[g]'(by omega)).length := by
      rw [List.take_succ_eq_append_getElem (by omega)]; simp only [total, List.map_append, List.map_cons, List.map_nil, List.sum_append, List.sum_cons, List.sum_nil]; omega
    rw [upU, hg, nums_append, nums_append, tlen_append, tlen_append, h1, h2]
    simp only [List.length_append, List.length_map, List.length_cons, List.length_nil]
    omega

theorem does_grown {base : Nat} {w w' : World} {gv iv : Value} {G : List Bool} {Y : List (List (List UInt8))} (h : DoesAt base w gv iv G Y) {b : Nat} {v : Value} {n : Nat} {xs : List Value} (hv : w.ownsRow b 45 3 v n xs) (hg : w.grownBy w' v.ownBlock) : DoesAt base w' gv iv G Y := by
  obtain ⟨Vs, hI⟩ := h.ins
  exact ⟨h.gone.kept hg (rows_ne h.gone hv (by decide)), Vs, hI.row.kept hg (rows_ne hI.row hv (by decide)), fun j hj => (hI.each j hj).kept hg (rows_ne (hI.each j hj) hv (by decide)), hI.non, hI.apart⟩

theorem by_hid {p : Prop} (h : p) : Hid p := h

structure PartsSt (w : World) (gv iv : Value) (G : List Bool) (Y : List (List (List UInt8))) (L : List Pt) (v : Value) (wr : World) : Prop where
  box : wr.heap[w.heap.size]? = some (.cells #[gv, iv] 129 (0, 0))
  does : DoesAt w.heap.size wr gv iv G Y
  row : wr.ownsRow w.heap.size 45 3 v L.length (rowOf L)
  below : Below w.heap.size w wr

theorem PartsSt.with {w wr w' : World} {gv iv v v' : Value} {G : List Bool} {Y : List (List (List UInt8))} {L L' : List Pt} (h : PartsSt w gv iv G Y L v wr) (h1 : w'.ownsRow w.heap.size 45 3 v' L'.length (rowOf L')) (h2 : wr.grownBy w' v.ownBlock) : PartsSt w gv iv G Y L' v' w' := by
  have hlt := lt_of_blk h.box
  refine ⟨?_, does_grown h.does h.row h2, h1, h.below.grown h2 (by omega) (fun k hk => (h.row.lt k hk).1)⟩
  rw [h2.block _ hlt (fun e => own_ne h.row h.box (by decide) e.symm)]
  exact h.box

theorem PartsSt.form {w wr : World} {gv iv v : Value} {G : List Bool} {Y : List (List (List UInt8))} {L : List Pt} (h : PartsSt w gv iv G Y L v wr) : ∃ ao cap, v = .slice ao L.length cap := by
  rcases h.row.2 with ⟨e, h0⟩ | ⟨g2, cap2, cur2, e, _⟩
  · exact ⟨none, 0, by rw [e, h0]⟩
  · exact ⟨_, _, e⟩

theorem isU_I (c : List UInt8) : IsU (I c) 2 c := ⟨rfl, rfl, .inl ⟨rfl, rfl⟩⟩
theorem isU_K : IsU (K 1) 1 [] := ⟨rfl, rfl, .inr ⟨.inl rfl, rfl, rfl⟩⟩
theorem isU_D : IsU (D 1) 3 [] := ⟨rfl, rfl, .inr ⟨.inr rfl, rfl, rfl⟩⟩

structure Sizes (G : List Bool) (Y : List (List (List UInt8))) : Prop where
  len : Y.length = G.length + 1
  n : G.length ≤ 5000000
  tot : total Y ≤ 100000000
  byt : bytesOf Y ≤ 100000000

theorem take_sum_le {α : Type} (f : α → Nat) (l : List α) (k : Nat) : ((l.take k).map f).sum ≤ (l.map f).sum := by
  conv => rhs; rw [← List.take_append_drop k l]
  rw [List.map_append, List.sum_append]
  omega

theorem le_bytes {X : List (List (List UInt8))} (j : Nat) (h : j < X.length) : (X[j]).flatten.length ≤ bytesOf X := by
  induction X generalizing j with
  | nil => simp at h
  | cons x X ih =>
    simp only [bytesOf, List.map_cons, List.sum_cons] at *
    cases j with
    | zero => simp
    | succ j => have := ih j (by simpa using h); simp only [List.getElem_cons_succ]; omega

/-- what with has laid so far is small. -/
theorem pre_size {G : List Bool} {Y : List (List (List UInt8))} (hs : Sizes G Y) (g : Nat) (hg : g < Y.length) (i : Nat) (L : List Pt) (hL : L = (upU G Y g ++ ((Y.getD g []).take i).map I).foldl withP []) :
    L.length ≤ 1000000000 ∧ ∀ p ∈ L, p.num ≤ 1000000000 ∧ p.text.length ≤ 1000000000 := by
  obtain ⟨a, b, c⟩ := foldP_size (upU G Y g ++ ((Y.getD g []).take i).map I) []
  rw [← hL] at a b c
  obtain ⟨d, e, f⟩ := upU_size G Y g (by omega)
  obtain ⟨k1, k2⟩ := tlen_I ((Y.getD g []).take i)
  have hgd : Y.getD g [] = Y[g] := by rw [List.getD_eq_getElem?_getD, List.getElem?_eq_getElem hg]; rfl
  have h1 : total (Y.take g) ≤ total Y := take_sum_le _ _ _
  have h2 : bytesOf (Y.take g) ≤ bytesOf Y := take_sum_le _ _ _
  have h3 : (Y[g]).length ≤ total Y := le_total g hg
  have h4 : ((Y.getD g []).take i).flatten.length ≤ bytesOf Y := by
    rw [hgd]
    have : (Y[g].take i).flatten.length ≤ (Y[g]).flatten.length := by
      conv => rhs; rw [flatten_split Y[g] i]
      simp
    have h5 : (Y[g]).flatten.length ≤ bytesOf Y := le_bytes g hg
    omega
  have h5 : ((Y.getD g []).take i).length ≤ total Y := by rw [hgd]; have : (Y[g].take i).length ≤ (Y[g]).length := List.length_take_le' _ _; omega
  rw [nums_append] at a
  rw [tlen_append] at b
  simp only [List.length_append, List.length_map, List.length_nil] at c
  have z1 : nums ([] : List Pt) = 0 := rfl
  have z2 : tlen ([] : List Pt) = 0 := rfl
  have := hs.n; have := hs.tot; have := hs.byt; have := hs.len
  refine ⟨by omega, fun p hp => ⟨?_, ?_⟩⟩
  · have := le_nums hp; omega
  · have := le_tlen hp; omega

theorem own_pop {w : World} {base : Nat} {e : TypeId} {sz g n cap : Nat} {xs ys : List Value} (h : w.ownsRow base e sz (.slice (some ⟨g, 0, none⟩) (n + 1) cap) (n + 1) (xs ++ ys)) (hx : xs.length = n * sz) : w.ownsRow base e sz (.slice (some ⟨g, 0, none⟩) n cap) n xs := by
  refine ⟨hx, ?_⟩
  rcases h.2 with ⟨e, _⟩ | ⟨g', cap', cur, e, hb, hg, r1, r2, r3, r4⟩
  · simp at e
  · simp only [Value.slice.injEq, Option.some.injEq, Addr.mk.injEq] at e
    obtain ⟨⟨rfl, _⟩, _, rfl⟩ := e
    refine .inr ⟨g, cap, cur, rfl, hb, hg, by omega, r2, r3, ?_⟩
    have h1 : (cur.toList.take ((n + 1) * sz)).take (n * sz) = (xs ++ ys).take (n * sz) := by rw [r4]
    rw [List.take_take, Nat.min_eq_left (by rw [Nat.add_mul]; omega), ← hx, List.take_left] at h1
    rw [← hx]
    exact h1

/-- what a gap's texts are in memory. -/
theorem PartsSt.gap {w wr : World} {gv v : Value} {G : List Bool} {Y : List (List (List UInt8))} {L : List Pt} {gi' ci' : Nat} (h : PartsSt w gv (.slice (some ⟨gi', 0, none⟩) Y.length ci') G Y L v wr) (g : Nat) (hg : g < Y.length) :
    ∃ so sc, wr.cell? ⟨gi', g, none⟩ = some (.slice so (Y[g]).length sc) ∧ (0 < (Y[g]).length → ∃ gs, so = some ⟨gs, 0, none⟩ ∧ ∀ i (hi : i < (Y[g]).length), wr.cell? ⟨gs, i, none⟩ = some (.string (bs (Y[g])[i]))) := by
  obtain ⟨Vs, hI⟩ := h.does.ins
  obtain ⟨gi2, ci2, _, e2, _, _, hc⟩ := hI.form (by omega)
  simp only [Value.slice.injEq, Option.some.injEq, Addr.mk.injEq] at e2
  obtain ⟨⟨rfl, _⟩, _, rfl⟩ := e2
  have hcell := hc g hg
  have hrow := hI.each g hg
  rcases hrow.2 with ⟨e, h0⟩ | ⟨gs, cap, cur, e, hb, hgs, r⟩
  · exact ⟨none, 0, by rw [hcell, e, h0], fun hp => by omega⟩
  · refine ⟨_, _, by rw [hcell, e], fun _ => ⟨gs, rfl, fun i hi => ?_⟩⟩
    have hcc := hrow.cells (g := gs) (by rw [e]; rfl) i (.string (bs (Y[g])[i])) (by rw [strV, List.getElem?_map, List.getElem?_eq_getElem hi]; rfl)
    have hadd : (⟨gs, 0, none⟩ : Addr).add i = ⟨gs, i, none⟩ := by unfold Addr.add; split <;> simp_all
    rw [hadd] at hcc
    exact hcc

set_option maxHeartbeats 4000000 in
set_option maxRecDepth 100000 in
theorem rParts_any (base : Nat) (gv iv : Value) (G : List Bool) (X : List (List (List UInt8))) (w : World) (h : DoesAt base w gv iv G X) (hs : Sizes G X) (hs' : Sizes G (settR G X)) :
    Calls Try.prog 75 #[.agg #[gv, iv]] w fun e w' => ∃ v, e = .returned v ∧ w'.ownsRow w.heap.size 45 3 v (dropKeep ((units G (settR G X)).foldl withP [])).length (rowOf (dropKeep ((units G (settR G X)).foldl withP []))) ∧ Below w.heap.size w w' := by
  obtain ⟨Y, hY⟩ : ∃ Y, Y = settR G X := ⟨_, rfl⟩
  have HD : Hid (DoesAt base w gv iv G X ∧ Sizes G X ∧ Sizes G Y ∧ Y = settR G X) := ⟨h, hs, by rw [hY]; exact hs', hY⟩
  rw [← hY]
  obtain ⟨ao, cg, rfl, _⟩ := gone_form h.gone
  obtain ⟨Vs, hI⟩ := h.ins
  obtain ⟨gi, ci, _, rfl, _⟩ := hI.form (by have := hs.len; omega)
  clear h hs hs' hI hY
  go_enter Try.func75, Try.ntmps75
  go_wp2_with fail
  refine (settled_any base _ _ G X _ (HD.out.1.below ((Below.refl _ _).alloc (Nat.le_refl _) _) (Nat.le_refl _)) HD.out.2.1.len HD.out.2.1.n (by have := HD.out.2.1.tot; omega)).mono ?_
  rintro e w1 ⟨gv', iv', rfl, hd1, hb1⟩
  have hsz1 : (w.alloc (.cells #[.slice ao G.length cg, .slice (some ⟨gi, 0, none⟩) X.length ci] 129)).heap.size = w.heap.size + 1 := by simp
  rw [hsz1] at hd1 hb1
  rw [← HD.out.2.2.2] at hd1
  have k1 : w1.heap[w.heap.size]? = some (.cells #[.slice ao G.length cg, .slice (some ⟨gi, 0, none⟩) X.length ci] 129 (0, 0)) := by
    rw [hb1.block _ (by omega)]
    exact heap_new_at _ _ _ rfl
  obtain ⟨Vs', hI'⟩ := hd1.ins
  obtain ⟨ao', cg', rfl, hgc'⟩ := gone_form hd1.gone
  obtain ⟨gi', ci', _, rfl, _⟩ := hI'.form (by have := HD.out.2.2.1.len; omega)
  have hlt1 := lt_of_blk k1
  have c0 : w1.cell? ⟨w.heap.size, 0, none⟩ = some (.slice ao G.length cg) := Lib.cell_of_heap k1 0
  have c1 : w1.cell? ⟨w.heap.size, 1, none⟩ = some (.slice (some ⟨gi, 0, none⟩) X.length ci) := Lib.cell_of_heap k1 1
  have f0 : w1.frozen? ⟨w.heap.size, 0, none⟩ = false := Lib.frozen_of_heap k1 0
  have f1 : w1.frozen? ⟨w.heap.size, 1, none⟩ = false := Lib.frozen_of_heap k1 1
  have HST : Hid (PartsSt w (.slice ao' G.length cg') (.slice (some ⟨gi', 0, none⟩) Y.length ci') G Y [] (.slice none 0 0) ((w1.setCell ⟨w.heap.size, 0, none⟩ (.slice ao' G.length cg')).setCell ⟨w.heap.size, 1, none⟩ (.slice (some ⟨gi', 0, none⟩) Y.length ci'))) := by
    have n0 := own_ne hd1.gone k1 (by decide)
    have n1 := own_ne hI'.row k1 (by decide)
    refine ⟨?_, ⟨own_base (own_set (own_set hd1.gone n0 _ _) n0 _ _) (by omega), Vs', own_base (own_set (own_set hI'.row n1 _ _) n1 _ _) (by omega), fun j hj => ?_, hI'.non, hI'.apart⟩, World.ownsRow_nil _ _ _ _, ?_⟩
    · have := block_set (block_set k1 0 (.slice ao' G.length cg')) 1 (.slice (some ⟨gi', 0, none⟩) Y.length ci')
      simpa using this
    · have n2 := own_ne (hI'.each j hj) k1 (by decide)
      exact own_base (own_set (own_set (hI'.each j hj) n2 _ _) n2 _ _) (by omega)
    · exact ((((Below.refl _ _).alloc (Nat.le_refl _) _).trans (hb1.mono (by omega))).setCell (p := ⟨w.heap.size, 0, none⟩) (Nat.le_refl _) _).setCell (p := ⟨w.heap.size, 1, none⟩) (Nat.le_refl _) _
  clear hd1 hb1 hI' hgc' k1 hsz1
  go_wp2
  have hyl := HD.out.2.2.1.len
  have hyl1 : Y.length ≤ G.length + 1 := by omega
  have hyl2 : G.length + 1 ≤ Y.length := by omega
  have hgn := HD.out.2.2.1.n
  clear hyl
  go_loopw [3, 4] (fun l gx wr => ∃ (g : Nat) (L : List Pt), g ≤ G.length ∧ gx = .int .i64 g ∧ L = (upU G Y g).foldl withP [] ∧ PartsSt w (.slice ao' G.length cg') (.slice (some ⟨gi', 0, none⟩) Y.length ci') G Y L l wr) (fun _ gx _ => G.length + 1 - (intOf gx).toNat)
  case atStart => exact ⟨0, [], Nat.zero_le _, rfl, rfl, HST.out⟩
  case round =>
    obtain ⟨g, L, hg, rfl, hL, hP⟩ := hrel
    have HP : Hid (PartsSt w (.slice ao' G.length cg') (.slice (some ⟨gi', 0, none⟩) Y.length ci') G Y L u3 wr) := hP
    have HL : Hid (L = (upU G Y g).foldl withP []) := hL
    have hgy : g < Y.length := by omega
    have b1 : wr.cell? ⟨w.heap.size, 1, none⟩ = some (.slice (some ⟨gi', 0, none⟩) Y.length ci') := Lib.cell_of_heap hP.box 1
    have hgd : Y.getD g [] = Y[g] := by rw [List.getD_eq_getElem?_getD, List.getElem?_eq_getElem hgy]; rfl
    have HGD : Hid (Y.getD g [] = Y[g]) := hgd
    have hgi1 : (g : Int) < (Y.length : Int) := by omega
    have hyt : (Y[g]).length ≤ 100000000 := by have := le_total g hgy; have := HD.out.2.2.1.tot; omega
    clear hP hL hgd
    go_wp2
    go_loopw [3, 5] (fun l ix wr => ∃ (i : Nat) (L : List Pt), i ≤ (Y[g]).length ∧ ix = .int .i64 i ∧ L = (upU G Y g ++ ((Y.getD g []).take i).map I).foldl withP [] ∧ PartsSt w (.slice ao' G.length cg') (.slice (some ⟨gi', 0, none⟩) Y.length ci') G Y L l wr) (fun _ ix _ => (Y[g]).length - (intOf ix).toNat)
    case atStart => exact ⟨0, L, Nat.zero_le _, rfl, by rw [HL.out]; simp, HP.out⟩
    case round =>
      obtain ⟨i, L2, hi, rfl, hL2, hP2⟩ := hrel
      have hsm := pre_size HD.out.2.2.1 g hgy i L2 hL2
      have HSM : Hid (L2.length ≤ 1000000000 ∧ ∀ p ∈ L2, p.num ≤ 1000000000 ∧ p.text.length ≤ 1000000000) := hsm
      have HP2 : Hid (PartsSt w (.slice ao' G.length cg') (.slice (some ⟨gi', 0, none⟩) Y.length ci') G Y L2 u3 wr) := hP2
      have HL2 : Hid (L2 = (upU G Y g ++ ((Y.getD g []).take i).map I).foldl withP []) := hL2
      have b1 : wr.cell? ⟨w.heap.size, 1, none⟩ = some (.slice (some ⟨gi', 0, none⟩) Y.length ci') := Lib.cell_of_heap hP2.box 1
      have b0 : wr.cell? ⟨w.heap.size, 0, none⟩ = some (.slice ao' G.length cg') := Lib.cell_of_heap hP2.box 0
      obtain ⟨so, sc, hcs, hso⟩ := hP2.gap g hgy
      obtain ⟨vo, vc, rfl⟩ := hP2.form
      have hlw : w.heap.size ≤ wr.heap.size := by have := hP2.below.size; omega
      clear hP2 hL2 hsm
      by_cases hil : i < (Y[g]).length
      · obtain ⟨gs, rfl, hsc⟩ := hso (by omega)
        have hcc := hsc i hil
        have hi1 : (i : Int) < ((Y[g]).length : Int) := by omega
        have hcl : ((Y[g])[i]).length ≤ 1000000000 := by
          have h1 := le_bytes g hgy
          have h2 := HD.out.2.2.1.byt
          have h3 : ((Y[g])[i]).length ≤ (Y[g]).flatten.length := by
            have := begins_succ Y[g] i hil
            have := begins_le Y[g] (i + 1)
            omega
          omega
        clear hsc hso
        go_wp2_with fail
        refine (with_any w.heap.size _ L2 (I (Y[g])[i]) 2 (Y[g])[i] _ HP2.out.row hlw (isU_I _) HSM.out.1 HSM.out.2 hcl).mono ?_
        rintro e w3 ⟨v3, rfl, hr3, hg3⟩
        have HP3 : Hid (PartsSt w (.slice ao' G.length cg') (.slice (some ⟨gi', 0, none⟩) Y.length ci') G Y (withP L2 (I (Y[g])[i])) v3 w3) := HP2.out.with hr3 hg3
        clear hr3 hg3
        go_wp2
        go_roundw
        case rel =>
          refine ⟨i + 1, _, by omega, by go_num, ?_, HP3.out⟩
          rw [HL2.out, HGD.out, List.take_succ_eq_append_getElem hil, List.map_append, ← List.append_assoc]
          exact (List.foldl_append (f := withP) (l := upU G Y g ++ ((Y[g]).take i).map I) (l' := [I (Y[g])[i]])).symm
        case measure => simp [intOf]; omega
      · have hii : i = (Y[g]).length := by omega
        subst hii
        clear hso
        have hcat : L2 = (upU G Y g ++ (Y.getD g []).map I).foldl withP [] := by
          rw [HL2.out, HGD.out, List.take_length]
        have HCAT : Hid (L2 = (upU G Y g ++ (Y.getD g []).map I).foldl withP []) := hcat
        clear hcat
        by_cases hgG : g = G.length
        · have HU : Hid (L2 = (units G Y).foldl withP []) := by_hid (by
            rw [units_up G Y (by omega), ← hgG]
            exact HCAT.out)
          subst hgG
          rcases List.eq_nil_or_concat L2 with e | ⟨M, p, e⟩
          · subst e
            go_wp2
            go_ret
            refine ⟨_, rfl, ?_, HP2.out.below⟩
            rw [← HU.out]
            exact HP2.out.row
          · rw [List.concat_eq_append] at e
            subst e
            obtain ⟨gl, rfl, hvc⟩ : ∃ gl, vo = some ⟨gl, 0, none⟩ ∧ M.length + 1 ≤ vc := by
              rcases HP2.out.row.2 with ⟨e, h0⟩ | ⟨gl, cap, cur, e, _, _, r1, _⟩
              · simp at h0
              · simp only [Value.slice.injEq] at e
                simp only [List.length_append, List.length_singleton] at r1
                exact ⟨gl, e.1, by omega⟩
            have hvc1 : (M.length : Int) ≤ (vc : Int) := by omega
            have HQ : Hid (vc = vc ∧ wr.ownsRow w.heap.size 45 3 (.slice (some ⟨gl, 0, none⟩) (M.length + 1) vc) (M.length + 1) (rowOf (M ++ [p]))) := ⟨rfl, by have := HP2.out.row; rw [List.length_append, List.length_singleton] at this; exact this⟩
            have hr := HP2.out.row
            obtain ⟨k0, _⟩ := at_row hr (M.length * 3 + 0) (.int .i64 p.kind) ((rowOf_at (M ++ [p]) M.length (by simp) 0 (by omega)).trans (by simp [ptCells]))
            simp only [Nat.add_zero] at k0
            have hml : M.length ≤ 1000000000 := by have := HSM.out.1; simp at this; omega
            clear hr
            rw [List.length_append, List.length_singleton]
            by_cases hpk : p.kind = 1
            · rw [hpk] at k0
              have HD2 : Hid (dropKeep ((units G Y).foldl withP []) = M) := by_hid (by
                rw [← HU.out]
                simp [dropKeep, hpk])
              clear hpk
              go_wp2
              go_ret
              refine ⟨_, rfl, ?_, HP2.out.below⟩
              rw [HD2.out]
              exact own_pop (by rw [← rowOf_snoc]; exact HQ.out.2) (rowOf_length M)
            · have hpk1 : ((p.kind : Int) == 1) = false := by simp; omega
              have HD2 : Hid (dropKeep ((units G Y).foldl withP []) = M ++ [p]) := by_hid (by
                rw [← HU.out]
                simp [dropKeep, hpk])
              clear hpk
              go_wp2
              go_ret
              refine ⟨_, rfl, ?_, HP2.out.below⟩
              rw [HD2.out, List.length_append, List.length_singleton]
              exact HQ.out.2
        · have hgl : g < G.length := by omega
          obtain ⟨ao2, cg2, ec, hcells⟩ := gone_form HP2.out.does.gone
          simp only [Value.slice.injEq, true_and] at ec
          obtain ⟨rfl, rfl⟩ := ec
          obtain ⟨gg, _, rfl, _, _, hc2⟩ := hcells (by omega)
          have hcg := hc2 g hgl
          have hgl1 : (g : Int) < (G.length : Int) := by omega
          have hgne : ((g : Int) == (G.length : Int)) = false := by simp; omega
          clear hc2 hcells
          cases hGg : G[g] with
          | true =>
            rw [hGg] at hcg
            go_wp2_with fail
            refine (with_any w.heap.size _ L2 (D 1) 3 [] _ HP2.out.row hlw isU_D HSM.out.1 HSM.out.2 (by simp)).mono ?_
            rintro e w3 ⟨v3, rfl, hr3, hg3⟩
            have HP3 : Hid (PartsSt w (.slice (some ⟨gg, 0, none⟩) G.length cg') (.slice (some ⟨gi', 0, none⟩) Y.length ci') G Y (withP L2 (D 1)) v3 w3) := HP2.out.with hr3 hg3
            clear hr3 hg3
            go_wp2
            go_roundw
            case rel =>
              refine ⟨g + 1, _, by omega, by go_num, ?_, HP3.out⟩
              have hgt : G.getD g false = true := by rw [List.getD_eq_getElem?_getD, List.getElem?_eq_getElem hgl, hGg]; rfl
              rw [HCAT.out, upU, hgt, ← List.append_assoc]
              exact (List.foldl_append (f := withP) (l := upU G Y g ++ (Y.getD g []).map I) (l' := [D 1])).symm
            case measure => simp [intOf]; omega
          | false =>
            rw [hGg] at hcg
            go_wp2_with fail
            refine (with_any w.heap.size _ L2 (K 1) 1 [] _ HP2.out.row hlw isU_K HSM.out.1 HSM.out.2 (by simp)).mono ?_
            rintro e w3 ⟨v3, rfl, hr3, hg3⟩
            have HP3 : Hid (PartsSt w (.slice (some ⟨gg, 0, none⟩) G.length cg') (.slice (some ⟨gi', 0, none⟩) Y.length ci') G Y (withP L2 (K 1)) v3 w3) := HP2.out.with hr3 hg3
            clear hr3 hg3
            go_wp2
            go_roundw
            case rel =>
              refine ⟨g + 1, _, by omega, by go_num, ?_, HP3.out⟩
              have hgt : G.getD g false = false := by rw [List.getD_eq_getElem?_getD, List.getElem?_eq_getElem hgl, hGg]; rfl
              rw [HCAT.out, upU, hgt, ← List.append_assoc]
              exact (List.foldl_append (f := withP) (l := upU G Y g ++ (Y.getD g []).map I) (l' := [K 1])).symm
            case measure => simp [intOf]; omega

end Go.Proofs.Ytpiankiacbghcaa
