/-
  The document's answer: of.
-/
import Derived.Test.YtpiankiacbghcaaRRef11
namespace Go.Proofs.Ytpiankiacbghcaa
open Go.RowKit

/-- what is left of the characters below a gap. -/
def ofU (G : List Bool) (X : List (List (List UInt8))) (cs : List (List UInt8)) : Nat → List (List UInt8)
  | 0 => []
  | g + 1 => ofU G X cs g ++ (X.getD g [] ++ if g < cs.length then (if G.getD g false then [] else [cs.getD g []]) else [])

theorem ofU_cons (b : Bool) (G : List Bool) (x : List (List UInt8)) (X : List (List (List UInt8))) (c : List UInt8) (cs : List (List UInt8)) : ∀ g, ofU (b :: G) (x :: X) (c :: cs) (g + 1) = x ++ ((if b then [] else [c]) ++ ofU G X cs g)
  | 0 => by simp [ofU]
  | g + 1 => by
    rw [ofU, ofU_cons b G x X c cs g]
    simp [ofU]

theorem ofU_all : ∀ (G : List Bool) (X : List (List (List UInt8))) (cs : List (List UInt8)), X.length = G.length + 1 → cs.length = G.length → ofU G X cs X.length = ofF G X cs
  | [], [], cs, h, _ => by simp at h
  | b :: G, [], cs, h, _ => by simp at h
  | [], x :: X, cs, h, hc => by
    have hX : X = [] := by simpa using h
    have hcs : cs = [] := List.length_eq_zero_iff.1 (by simpa using hc)
    subst hX hcs
    simp [ofU, ofF]
  | b :: G, x :: X, [], _, hc => by simp at hc
  | b :: G, x :: X, c :: cs, h, hc => by
    have ih := ofU_all G X cs (by simpa using h) (by simpa using hc)
    rw [List.length_cons, ofU_cons, ofF, ih]

theorem wpList_append_none {P : Program} {w : World} {ops : Array Oper} {rest : List Oper} {o : Oper} {a : Act} {Q : Exit → Act → World → Prop} (hgd : o.guard = none) (s x : Operand) (t : TypeId)
    (ho : o.op = .call { callee := .builtin .append, args := #[s, x], argTypes := #[t, t] })
    (base : Nat) (e : TypeId) (i : TypeInfo) (size : Nat) (ht : P.underlying t = some (.slice e)) (hi : P.info? e = some i)
    (v : Value) (n : Nat) (xs : List Value) (hs : a.eval s = v) (hown : w.ownsRow base e size v n xs) (hx : a.eval x = .slice none 0 0)
    (h : wpList P ops Q rest (a.put o.dst v) w) : wpList P ops Q (o :: rest) a w := by
  refine wpList_plain hgd fun K hK => ?_
  have hrun := run_append_owned_none (P := P) (w := w) base t o.type e i size ht hi v n xs hown
  unfold Oper.wp execOp
  simp [ho, resolve, invoke, builtin, hs, hx, hrun, Result.andThen]
  exact hK _ _ h

/-- where of stands. -/
structure OfSt (w : World) (gv iv out : Value) (L : List (List UInt8)) (wr : World) : Prop where
  box : wr.heap[w.heap.size]? = some (.cells #[gv, iv] 129 (0, 0))
  row : wr.ownsRow w.heap.size 9 1 out L.length (strV L)
  below : Below w.heap.size w wr

theorem OfSt.more {w wr w' : World} {gv iv out out' : Value} {L L' : List (List UInt8)} (h : OfSt w gv iv out L wr) (h1 : w'.ownsRow w.heap.size 9 1 out' L'.length (strV L')) (h2 : wr.grownBy w' out.ownBlock) : OfSt w gv iv out' L' w' := by
  have hlt := lt_of_blk h.box
  refine ⟨?_, h1, h.below.grown h2 (by omega) (fun k hk => (h.row.lt k hk).1)⟩
  rw [h2.block _ hlt (fun e => own_ne h.row h.box (by decide) e.symm)]
  exact h.box

theorem OfSt.alloc {w wr : World} {gv iv out : Value} {L : List (List UInt8)} (h : OfSt w gv iv out L wr) (o : Obj) : OfSt w gv iv out L (wr.alloc o) := by
  have hlt := lt_of_blk h.box
  have hb : Below wr.heap.size wr (wr.alloc o) := (Below.refl _ _).alloc (Nat.le_refl _) _
  exact ⟨by rw [hb.block _ hlt]; exact h.box, h.row.alloc _, h.below.alloc (by omega) _⟩

theorem ofU_len {G : List Bool} {X : List (List (List UInt8))} {cs : List (List UInt8)} (h1 : X.length = G.length + 1) (h2 : G.length ≤ 1000000) (h3 : total X ≤ 100000000) (g : Nat) (hg : g ≤ X.length) : (ofU G X cs g).length ≤ 200000000 := by
  have key : ∀ g, g ≤ X.length → (ofU G X cs g).length ≤ total (X.take g) + g := by
    intro g
    induction g with
    | zero => intro _; simp [ofU]
    | succ g ih =>
      intro hg
      have := ih (by omega)
      have hgd : X.getD g [] = X[g]'(by omega) := by rw [List.getD_eq_getElem?_getD, List.getElem?_eq_getElem (by omega)]; rfl
      have ht : total (X.take (g + 1)) = total (X.take g) + (X[g]'(by omega)).length := by
        rw [List.take_succ_eq_append_getElem (by omega)]; simp only [total, List.map_append, List.map_cons, List.map_nil, List.sum_append, List.sum_cons, List.sum_nil]; omega
      rw [ofU, hgd, ht, List.length_append, List.length_append]
      have : (if g < cs.length then (if G.getD g false then [] else [cs.getD g []]) else []).length ≤ 1 := by
        by_cases h1 : g < cs.length
        · rw [if_pos h1]
          by_cases h2 : G.getD g false = true
          · rw [if_pos h2]; simp
          · rw [if_neg h2]; simp
        · rw [if_neg h1]; simp
      omega
  have h4 := key g hg
  have h5 : total (X.take g) ≤ total X := take_sum_le _ _ _
  omega

set_option maxHeartbeats 4000000 in
set_option maxRecDepth 100000 in
theorem of_any (base : Nat) (gv iv lv : Value) (G : List Bool) (X : List (List (List UInt8))) (cs : List (List UInt8)) (w : World) (h : DoesAt base w gv iv G X) (hs : Sizes G X) (hl : w.ownsRow base 9 1 lv cs.length (strV cs)) (hc : cs.length = G.length) :
    Calls Try.prog 95 #[.agg #[gv, iv], lv] w fun e w' => ∃ v, e = .returned v ∧ w'.ownsRow w.heap.size 9 1 v (ofF G X cs).length (strV (ofF G X cs)) ∧ Below w.heap.size w w' := by
  have HD : Hid (DoesAt base w gv iv G X ∧ w.ownsRow base 9 1 lv cs.length (strV cs)) := ⟨h, hl⟩
  obtain ⟨ao, cg, rfl, _⟩ := gone_form h.gone
  obtain ⟨Vs, hI⟩ := h.ins
  obtain ⟨gi, ci, _, rfl, _⟩ := hI.form (by have := hs.len; omega)
  obtain ⟨lo, lcap, rfl⟩ : ∃ lo lcap, lv = .slice lo cs.length lcap := by
    rcases hl.2 with ⟨e, h0⟩ | ⟨g2, cap2, cur2, e, _⟩
    · exact ⟨none, 0, by rw [e, h0]⟩
    · exact ⟨_, _, e⟩
  clear h hl hI
  obtain ⟨i0, hi0, hz0, hz1, hz2⟩ := info_parts Try.infoStr
  have HXL : Hid (X.length = G.length + 1 ∧ cs.length = G.length) := ⟨hs.len, hc⟩
  have hx1 : X.length ≤ G.length + 1 := by have := hs.len; omega
  have hx2 : G.length + 1 ≤ X.length := by have := hs.len; omega
  have hc1 : cs.length ≤ G.length := by omega
  have hc2 : G.length ≤ cs.length := by omega
  have hgn := hs.n
  have hxt := hs.tot
  clear hs hc
  go_enter Try.func95, Try.ntmps95
  go_wp2
  go_loopw [5, 6] (fun out gx wr => ∃ g : Nat, g ≤ X.length ∧ gx = .int .i64 g ∧ OfSt w (.slice ao G.length cg) (.slice (some ⟨gi, 0, none⟩) X.length ci) out (ofU G X cs g) wr) (fun _ gx _ => X.length - (intOf gx).toNat)
  case atStart => exact ⟨0, Nat.zero_le _, rfl, heap_new_at _ _ _ rfl, World.ownsRow_nil _ _ _ _, (Below.refl _ _).alloc (Nat.le_refl _) _⟩
  case round =>
    obtain ⟨g, hg, rfl, hS⟩ := hrel
    have HS : Hid (OfSt w (.slice ao G.length cg) (.slice (some ⟨gi, 0, none⟩) X.length ci) u5 (ofU G X cs g) wr) := hS
    have b1 : wr.cell? ⟨w.heap.size, 1, none⟩ = some (.slice (some ⟨gi, 0, none⟩) X.length ci) := Lib.cell_of_heap hS.box 1
    have hbz := hS.below.size
    clear hS
    by_cases hlt : g < X.length
    · obtain ⟨Vs9, hI9⟩ := HD.out.1.ins
      obtain ⟨gi9, ci9, cur9, e9, hb9, hgi9, hcell9⟩ := hI9.form (by omega)
      simp only [Value.slice.injEq, Option.some.injEq, Addr.mk.injEq] at e9
      obtain ⟨⟨rfl, _⟩, _, rfl⟩ := e9
      have hrow := own_below (hI9.each g hlt) HS.out.below (Nat.le_refl _)
      have k1 : wr.cell? ⟨gi, g, none⟩ = some (Vs9.getD g undef) := (HS.out.below.cell (p := ⟨gi, g, none⟩) (lt_of_blk hgi9)).trans (hcell9 g hlt)
      have hgi1 : (g : Int) < (X.length : Int) := by omega
      have HNON : Hid (X[g] = [] → Vs9.getD g undef = .slice none 0 0) := hI9.non g hlt
      have hgd : X.getD g [] = X[g] := by rw [List.getD_eq_getElem?_getD, List.getElem?_eq_getElem hlt]; rfl
      have hul : (ofU G X cs g).length ≤ 200000000 := ofU_len HXL.out.1 hgn hxt g hg
      have hxgl : (X[g]).length ≤ 100000000 := by have := le_total g hlt; omega
      have HLEN : Hid ((ofU G X cs g ++ X[g]).length ≤ 300000000) := by_hid (by rw [List.length_append]; omega)
      clear hI9 hcell9 hgi9
      by_cases hgG : g < G.length
      · obtain ⟨ag2, cg2, eg, hgc⟩ := gone_form HD.out.1.gone
        simp only [Value.slice.injEq, true_and] at eg
        obtain ⟨rfl, rfl⟩ := eg
        obtain ⟨gg, cur, rfl, hgb, hgg, hcells⟩ := hgc (by omega)
        have hggl := lt_of_blk hgg
        have hg1 := hcells g hgG
        have hgl1 : (g : Int) < (G.length : Int) := by omega
        have hgcs : g < cs.length := by omega
        have hgcs1 : (g : Int) < (cs.length : Int) := by omega
        obtain ⟨lg, rfl, hlgl, hl1⟩ : ∃ lg, lo = some ⟨lg, 0, none⟩ ∧ lg < w.heap.size ∧ w.cell? ⟨lg, g, none⟩ = some (.string (bs cs[g])) := by
          rcases HD.out.2.2 with ⟨e, h0⟩ | ⟨gs, cap, cur, e, hb, hgs, _⟩
          · omega
          · simp only [Value.slice.injEq] at e
            obtain ⟨rfl, _, rfl⟩ := e
            have hcc := HD.out.2.cells (g := gs) rfl g (.string (bs cs[g])) (by rw [strV, List.getElem?_map, List.getElem?_eq_getElem hgcs]; rfl)
            have hadd : (⟨gs, 0, none⟩ : Addr).add g = ⟨gs, g, none⟩ := by unfold Addr.add; split <;> simp_all
            rw [hadd] at hcc
            exact ⟨gs, rfl, lt_of_blk hgs, hcc⟩
        have HL1 : Hid (w.cell? ⟨lg, g, none⟩ = some (.string (bs cs[g]))) := hl1
        clear hcells hgc hgg hl1
        cases hGg : G[g] with
        | true =>
          rw [hGg] at hg1
          have HG1 : Hid (w.cell? ⟨gg, g, none⟩ = some (.bool true)) := hg1
          have HEQ : Hid (ofU G X cs (g + 1) = ofU G X cs g ++ X[g]) := by_hid (by
            have h1 : G.getD g false = true := by rw [List.getD_eq_getElem?_getD, List.getElem?_eq_getElem hgG, hGg]; rfl
            rw [ofU, hgd, h1]; simp)
          clear hg1 hgd hGg
          by_cases hxe : X[g] = []
          · rw [HNON.out hxe] at k1
            have HO : Hid (OfSt w (.slice (some ⟨gg, 0, none⟩) G.length cg) (.slice (some ⟨gi, 0, none⟩) X.length ci) u5 (ofU G X cs g ++ X[g]) wr) := by_hid (by rw [hxe, List.append_nil]; exact HS.out)
            clear hrow hxe
            have b0 : wr.cell? ⟨w.heap.size, 0, none⟩ = some (.slice (some ⟨gg, 0, none⟩) G.length cg) := Lib.cell_of_heap HO.out.box 0
            have g1 : wr.cell? ⟨gg, g, none⟩ = some (.bool true) := (HO.out.below.cell (p := ⟨gg, g, none⟩) hggl).trans HG1.out
            go_wp2_with ((at_builtin; refine wpList_append_none rfl _ _ 61 rfl w.heap.size 9 i0 1 Try.underlying61 hi0 _ _ _ rfl HS.out.row rfl ?_))
            go_roundw
            case rel => exact ⟨g + 1, by omega, by go_num, by rw [HEQ.out]; exact HO.out⟩
            case measure => simp [intOf]; omega
          · obtain ⟨gs, scap, hsf⟩ : ∃ gs scap, Vs9.getD g undef = .slice (some ⟨gs, 0, none⟩) (X[g]).length scap := by
              rcases hrow.2 with ⟨e, h0⟩ | ⟨g2, cap2, cur2, e, _⟩
              · exact absurd (List.length_eq_zero_iff.1 h0) hxe
              · exact ⟨_, _, e⟩
            have HNEW : Hid (∀ j u, (strV X[g])[j]? = some u → wr.cell? ((⟨gs, 0, none⟩ : Addr).add j) = some u) := hrow.cells (g := gs) (by rw [hsf]; rfl)
            rw [hsf] at k1
            clear hrow hxe
            go_wp2_with ((at_builtin; refine wpList_append_own _ rfl _ _ 61 rfl w.heap.size 9 i0 _ 1 16 Try.underlying61 hi0 hz0 hz1 hz2 rfl (by decide) _ _ _ rfl HS.out.row ⟨gs, 0, none⟩ (X[g]).length scap (strV X[g]) rfl (by simp [strV_length]) HNEW.out (strV_one _) (by unfold maxLen; omega) (by omega) (by omega) ?_; intro v4 w4 hown4 hgrow4 _; have HO : Hid (OfSt w (.slice (some ⟨gg, 0, none⟩) G.length cg) (.slice (some ⟨gi, 0, none⟩) X.length ci) v4 (ofU G X cs g ++ X[g]) w4) := HS.out.more (by rw [List.length_append, strV_append]; exact hown4) hgrow4; clear hown4 hgrow4; have b0 : w4.cell? ⟨w.heap.size, 0, none⟩ = some (.slice (some ⟨gg, 0, none⟩) G.length cg) := Lib.cell_of_heap HO.out.box 0; have g1 : w4.cell? ⟨gg, g, none⟩ = some (.bool true) := (HO.out.below.cell (p := ⟨gg, g, none⟩) hggl).trans HG1.out))
            go_roundw
            case rel => exact ⟨g + 1, by omega, by go_num, by rw [HEQ.out]; exact HO.out⟩
            case measure => simp [intOf]; omega
        | false =>
          rw [hGg] at hg1
          have HG1 : Hid (w.cell? ⟨gg, g, none⟩ = some (.bool false)) := hg1
          have HEQ : Hid (ofU G X cs (g + 1) = ofU G X cs g ++ X[g] ++ [cs[g]]) := by_hid (by
            have h1 : G.getD g false = false := by rw [List.getD_eq_getElem?_getD, List.getElem?_eq_getElem hgG, hGg]; rfl
            have h2 : cs.getD g [] = cs[g] := by rw [List.getD_eq_getElem?_getD, List.getElem?_eq_getElem hgcs]; rfl
            rw [ofU, hgd, h1, h2, if_pos hgcs]; simp)
          clear hg1 hgd hGg
          by_cases hxe : X[g] = []
          · rw [HNON.out hxe] at k1
            have HO : Hid (OfSt w (.slice (some ⟨gg, 0, none⟩) G.length cg) (.slice (some ⟨gi, 0, none⟩) X.length ci) u5 (ofU G X cs g ++ X[g]) wr) := by_hid (by rw [hxe, List.append_nil]; exact HS.out)
            clear hrow hxe
            have b0 : wr.cell? ⟨w.heap.size, 0, none⟩ = some (.slice (some ⟨gg, 0, none⟩) G.length cg) := Lib.cell_of_heap HO.out.box 0
            have g1 : wr.cell? ⟨gg, g, none⟩ = some (.bool false) := (HO.out.below.cell (p := ⟨gg, g, none⟩) hggl).trans HG1.out
            have l1 : wr.cell? ⟨lg, g, none⟩ = some (.string (bs cs[g])) := (HO.out.below.cell (p := ⟨lg, g, none⟩) hlgl).trans HL1.out
            go_wp2_with (first | (at_builtin; refine wpList_append_none rfl _ _ 61 rfl w.heap.size 9 i0 1 Try.underlying61 hi0 _ _ _ rfl HS.out.row rfl ?_) | (at_builtin; refine wpList_append_own _ rfl _ _ 61 rfl w.heap.size 9 i0 _ 1 16 Try.underlying61 hi0 hz0 hz1 hz2 rfl (by decide) _ _ _ rfl (HO.out.row.alloc _) ⟨wr.heap.size, 0, none⟩ 1 1 [.string (bs cs[g])] rfl rfl (cell_one_new _ _ _) (fun x hx => by simp at hx; subst hx; rfl) (by have := HLEN.out; unfold maxLen; omega) (by have := HLEN.out; omega) (by have := HO.out.below.size; simp; omega) ?_; intro v5 w5 hown5 hgrow5 _; have HO2 : Hid (OfSt w (.slice (some ⟨gg, 0, none⟩) G.length cg) (.slice (some ⟨gi, 0, none⟩) X.length ci) v5 (ofU G X cs g ++ X[g] ++ [cs[g]]) w5) := (HO.out.alloc _).more (by rw [List.length_append, strV_append]; exact hown5) hgrow5; clear hown5 hgrow5))
            go_roundw
            case rel => exact ⟨g + 1, by omega, by go_num, by rw [HEQ.out]; exact HO2.out⟩
            case measure => simp [intOf]; omega
          · obtain ⟨gs, scap, hsf⟩ : ∃ gs scap, Vs9.getD g undef = .slice (some ⟨gs, 0, none⟩) (X[g]).length scap := by
              rcases hrow.2 with ⟨e, h0⟩ | ⟨g2, cap2, cur2, e, _⟩
              · exact absurd (List.length_eq_zero_iff.1 h0) hxe
              · exact ⟨_, _, e⟩
            have HNEW : Hid (∀ j u, (strV X[g])[j]? = some u → wr.cell? ((⟨gs, 0, none⟩ : Addr).add j) = some u) := hrow.cells (g := gs) (by rw [hsf]; rfl)
            rw [hsf] at k1
            clear hrow hxe
            go_wp2_with (first | (at_builtin; refine wpList_append_own _ rfl _ _ 61 rfl w.heap.size 9 i0 _ 1 16 Try.underlying61 hi0 hz0 hz1 hz2 rfl (by decide) _ _ _ rfl HS.out.row ⟨gs, 0, none⟩ (X[g]).length scap (strV X[g]) rfl (by simp [strV_length]) HNEW.out (strV_one _) (by unfold maxLen; omega) (by omega) (by omega) ?_; intro v4 w4 hown4 hgrow4 _; have HO : Hid (OfSt w (.slice (some ⟨gg, 0, none⟩) G.length cg) (.slice (some ⟨gi, 0, none⟩) X.length ci) v4 (ofU G X cs g ++ X[g]) w4) := HS.out.more (by rw [List.length_append, strV_append]; exact hown4) hgrow4; clear hown4 hgrow4; have b0 : w4.cell? ⟨w.heap.size, 0, none⟩ = some (.slice (some ⟨gg, 0, none⟩) G.length cg) := Lib.cell_of_heap HO.out.box 0; have g1 : w4.cell? ⟨gg, g, none⟩ = some (.bool false) := (HO.out.below.cell (p := ⟨gg, g, none⟩) hggl).trans HG1.out; have l1 : w4.cell? ⟨lg, g, none⟩ = some (.string (bs cs[g])) := (HO.out.below.cell (p := ⟨lg, g, none⟩) hlgl).trans HL1.out) | (at_builtin; refine wpList_append_own _ rfl _ _ 61 rfl w.heap.size 9 i0 _ 1 16 Try.underlying61 hi0 hz0 hz1 hz2 rfl (by decide) _ _ _ rfl (HO.out.row.alloc _) ⟨w4.heap.size, 0, none⟩ 1 1 [.string (bs cs[g])] rfl rfl (cell_one_new _ _ _) (fun x hx => by simp at hx; subst hx; rfl) (by have := HLEN.out; unfold maxLen; omega) (by have := HLEN.out; omega) (by have := HO.out.below.size; simp; omega) ?_; intro v5 w5 hown5 hgrow5 _; have HO2 : Hid (OfSt w (.slice (some ⟨gg, 0, none⟩) G.length cg) (.slice (some ⟨gi, 0, none⟩) X.length ci) v5 (ofU G X cs g ++ X[g] ++ [cs[g]]) w5) := (HO.out.alloc _).more (by rw [List.length_append, strV_append]; exact hown5) hgrow5; clear hown5 hgrow5))
            go_roundw
            case rel => exact ⟨g + 1, by omega, by go_num, by rw [HEQ.out]; exact HO2.out⟩
            case measure => simp [intOf]; omega
      · have hgcs1 : ¬ (g : Int) < (cs.length : Int) := by omega
        have HEQ : Hid (ofU G X cs (g + 1) = ofU G X cs g ++ X[g]) := by_hid (by
          rw [ofU, hgd, if_neg (by omega)]; simp)
        clear hgd
        by_cases hxe : X[g] = []
        · rw [HNON.out hxe] at k1
          have HO : Hid (OfSt w (.slice ao G.length cg) (.slice (some ⟨gi, 0, none⟩) X.length ci) u5 (ofU G X cs g ++ X[g]) wr) := by_hid (by rw [hxe, List.append_nil]; exact HS.out)
          clear hrow hxe
          go_wp2_with ((at_builtin; refine wpList_append_none rfl _ _ 61 rfl w.heap.size 9 i0 1 Try.underlying61 hi0 _ _ _ rfl HS.out.row rfl ?_))
          go_roundw
          case rel => exact ⟨g + 1, by omega, by go_num, by rw [HEQ.out]; exact HO.out⟩
          case measure => simp [intOf]; omega
        · obtain ⟨gs, scap, hsf⟩ : ∃ gs scap, Vs9.getD g undef = .slice (some ⟨gs, 0, none⟩) (X[g]).length scap := by
            rcases hrow.2 with ⟨e, h0⟩ | ⟨g2, cap2, cur2, e, _⟩
            · exact absurd (List.length_eq_zero_iff.1 h0) hxe
            · exact ⟨_, _, e⟩
          have HNEW : Hid (∀ j u, (strV X[g])[j]? = some u → wr.cell? ((⟨gs, 0, none⟩ : Addr).add j) = some u) := hrow.cells (g := gs) (by rw [hsf]; rfl)
          rw [hsf] at k1
          clear hrow hxe
          go_wp2_with ((at_builtin; refine wpList_append_own _ rfl _ _ 61 rfl w.heap.size 9 i0 _ 1 16 Try.underlying61 hi0 hz0 hz1 hz2 rfl (by decide) _ _ _ rfl HS.out.row ⟨gs, 0, none⟩ (X[g]).length scap (strV X[g]) rfl (by simp [strV_length]) HNEW.out (strV_one _) (by unfold maxLen; omega) (by omega) (by omega) ?_; intro v4 w4 hown4 hgrow4 _; have HO : Hid (OfSt w (.slice ao G.length cg) (.slice (some ⟨gi, 0, none⟩) X.length ci) v4 (ofU G X cs g ++ X[g]) w4) := HS.out.more (by rw [List.length_append, strV_append]; exact hown4) hgrow4; clear hown4 hgrow4))
          go_roundw
          case rel => exact ⟨g + 1, by omega, by go_num, by rw [HEQ.out]; exact HO.out⟩
          case measure => simp [intOf]; omega
    · have hgg : g = X.length := by omega
      subst hgg
      have HF : Hid (ofU G X cs X.length = ofF G X cs) := ofU_all G X cs HXL.out.1 HXL.out.2
      go_wp2
      go_ret
      refine ⟨_, rfl, ?_, HS.out.below⟩
      rw [← HF.out]
      exact HS.out.row

end Go.Proofs.Ytpiankiacbghcaa
