/-
  parts.Writer: settle.
-/
import Derived.Test.YtgoaihpaajchaaaWalks5
import Derived.Deep.RegionHeld3
import Derived.Deep.AppendLies
import Derived.Deep.DrawnRows
import Derived.Deep.RegionLaw
import Derived.Deep.DeepCutAuto
import Derived.Laws.Pointers
namespace Go.Proofs.Ytgoaihpaajchaaa
open Go.RowKit

/-- a Writer in block b. -/
structure WrAt (b : Nat) (W : Wr) (w : World) (dv pa bv : Value) : Prop where
  blk : w.heap[b]? = some (.cells #[dv, .int .i64 W.kept, pa, bv, .int .i64 W.gone] 63 (0, 0))
  adr : pa = .pointer none ∨ pa = .pointer (some ⟨b, 2, none⟩)
  row : w.ownsRow b 42 3 dv W.done.length (rowOf W.done)
  buf : w.ownsRow b 5 1 bv W.put.length (Lib.byteCells W.put)
  non : W.put = [] → bv = .slice none 0 0

/-- a Writer of which only the parts are known. -/
structure WrHalf (b : Nat) (L : List Pt) (kept gone : Nat) (w : World) (dv pa bv : Value) : Prop where
  blk : w.heap[b]? = some (.cells #[dv, .int .i64 kept, pa, bv, .int .i64 gone] 63 (0, 0))
  row : w.ownsRow b 42 3 dv L.length (rowOf L)

structure Wr.Small (W : Wr) : Prop where
  done : W.done.length ≤ 1000
  kept : W.kept ≤ 1000000000
  put : W.put.length ≤ 1000000000
  gone : W.gone ≤ 1000000000

theorem WrAt.bld {b : Nat} {W : Wr} {w : World} {dv pa bv : Value} (h : WrAt b W w dv pa bv) : BldAt 63 b 2 #[dv, .int .i64 W.kept, pa, bv, .int .i64 W.gone] W.put w :=
  ⟨h.blk, by rcases h.adr with rfl | rfl <;> simp, bv, rfl, h.buf, h.non⟩

theorem writerPlace : BldPlace 63 5 2 := ⟨by decide, by decide, by kernel_rfl⟩

theorem rows_ne {w : World} {base base' : Nat} {e e' : TypeId} {sz sz' : Nat} {v v' : Value} {n n' : Nat} {xs xs' : List Value} (h : w.ownsRow base e sz v n xs) (h' : w.ownsRow base' e' sz' v' n' xs') (hT : e ≠ e') : v.ownBlock = none ∨ v.ownBlock ≠ v'.ownBlock := by
  rcases h.2 with ⟨rfl, _⟩ | ⟨g, cap, cur, rfl, _, hg, _⟩
  · exact .inl rfl
  · refine .inr fun heq => ?_
    have := own_ne h' hg hT
    exact this heq.symm

theorem push_facts {x w1 : World} {b : Nat} {dv k pa bv g v' : Value} {L : List Pt} {p : Pt} {news : List Value} (hb : x.heap[b]? = some (.cells #[dv, k, pa, bv, g] 63 (0, 0))) (hrow : x.ownsRow b 42 3 dv L.length (rowOf L))
    (hown1 : w1.ownsRow b 42 3 v' (L.length + 1) (rowOf L ++ news)) (hn : news = ptCells p) (hgrow : x.grownBy w1 dv.ownBlock) (hat : ∀ k, v'.ownBlock = some k → dv.ownBlock = some k ∨ k = x.heap.size) :
    (w1.setCell ⟨b, 0, none⟩ v').heap[b]? = some (.cells #[v', k, pa, bv, g] 63 (0, 0)) ∧ (w1.setCell ⟨b, 0, none⟩ v').ownsRow b 42 3 v' (L ++ [p]).length (rowOf (L ++ [p])) ∧ Below b x (w1.setCell ⟨b, 0, none⟩ v') ∧
      (∀ n xs, x.ownsRow b 5 1 bv n xs → (w1.setCell ⟨b, 0, none⟩ v').ownsRow b 5 1 bv n xs) ∧ Wrote b [dv, bv] [v', bv] x (w1.setCell ⟨b, 0, none⟩ v') := by
  have hlt := lt_of_blk hb
  have hne := own_ne hrow hb (by decide)
  have hb1 : w1.heap[b]? = some (.cells #[dv, k, pa, bv, g] 63 (0, 0)) := by rw [hgrow.block b hlt (fun e => hne e.symm)]; exact hb
  subst hn
  have hne1 := own_ne hown1 hb1 (by decide)
  refine ⟨by have := block_set hb1 0 v'; simpa using this, ?_, ?_, ?_, ?_⟩
  · rw [rowOf_snoc, List.length_append]
    exact own_set hown1 hne1 _ _
  · exact ((Below.refl b x).grown hgrow (by omega) (fun k hk => (hrow.lt k hk).1)).setCell (p := ⟨b, 0, none⟩) (Nat.le_refl _) _
  · intro n xs hbuf
    refine own_set (hbuf.kept hgrow (rows_ne hbuf hrow (by decide))) ?_ _ _
    exact own_ne hbuf hb (by decide)
  · refine Wrote.setCell ⟨hgrow.size, fun k hk hkb hkv => hgrow.block k hk (fun e => hkv dv (by simp) e.symm), fun v hv k hk => ?_⟩ _ _
    simp only [List.mem_cons, List.not_mem_nil, or_false] at hv
    rcases hv with rfl | rfl
    · rcases hat k hk with e | e
      · exact .inl ⟨dv, by simp, e⟩
      · exact .inr (by omega)
    · exact .inl ⟨_, by simp, hk⟩

theorem row_others {w w' : World} {b : Nat} {cs : Array Value} {dv : Value} {n : Nat} {xs : List Value} (h : w.ownsRow b 42 3 dv n xs) (hb : w.heap[b]? = some (.cells cs 63 (0, 0))) (hk : Lib.OthersKept 5 (some b) w w') : w'.ownsRow b 42 3 dv n xs := by
  refine ⟨h.1, ?_⟩
  have hne := own_ne h hb (by decide)
  rcases h.2 with hn | ⟨g, cap, cur, rfl, hbb, hgg, rest⟩
  · exact .inl hn
  · refine .inr ⟨g, cap, cur, rfl, hbb, ?_, rest⟩
    refine hk g _ hgg (fun e => hne (by simpa [Value.ownBlock] using e)) ?_
    intro c fz e
    simp only [Obj.cells.injEq] at e
    exact absurd e.2.1 (by decide)

attribute [local go_sem ↓] Go.wp_at_zero Go.wp_at_succ

set_option maxHeartbeats 4000000 in
set_option maxRecDepth 100000 in
theorem settle_any (b : Nat) (W : Wr) (w : World) (dv pa bv : Value) (h : WrAt b W w dv pa bv) (hs : W.Small) (hput : ¬ (W.put = [] ∧ W.gone = 0)) :
    Calls Try.prog 50 #[.pointer (some ⟨b, 0, none⟩)] w fun e w' => e = .returned (.tuple #[]) ∧ (∃ dv' pa' bv', WrAt b W.settle w' dv' pa' bv' ∧ Wrote b [dv, bv] [dv', bv'] w w') ∧ Below b w w' := by
  obtain ⟨i0, hi, hz0, hz1, hz2⟩ := info_parts Try.infoPart
  have hlt := lt_of_blk h.blk
  have H : Hid (WrAt b W w dv pa bv) := h
  have HS : Hid W.Small := hs
  have c1 : w.cell? ⟨b, 1, none⟩ = some (.int .i64 W.kept) := Lib.cell_of_heap h.blk 1
  have c4 : w.cell? ⟨b, 4, none⟩ = some (.int .i64 W.gone) := Lib.cell_of_heap h.blk 4
  clear h hs
  have hcase : (((W.put.length : Int) == 0) = true ∧ ((W.gone : Int) == 0) = false) ∨ ((W.put.length : Int) == 0) = false := by
    by_cases hp : W.put = []
    · have hg : W.gone ≠ 0 := fun e => hput ⟨hp, e⟩
      exact .inl ⟨by rw [hp]; rfl, beq_eq_false_iff_ne.2 (by omega)⟩
    · have : W.put.length ≠ 0 := by simpa using hp
      exact .inr (beq_eq_false_iff_ne.2 (by omega))
  have HU : Hid (¬ (W.put = [] ∧ W.gone = 0)) := hput
  clear hput
  have hk := HS.out.kept
  have hd := HS.out.done
  go_enter Try.func50, Try.ntmps50
  rcases hcase with ⟨q1, q2⟩ | q1
  case inl =>
    go_upto_if 18 with (go_at_call 54; refine (bLen_any H.out.bld).mono ?_; rintro e w' ⟨rfl, rfl⟩)
    go_cut [] from 2 (fun wc => (∃ dv1 pa1 bv1, WrAt b { W with done := W.done ++ kp W.kept } wc dv1 pa1 bv1 ∧ Wrote b [dv, bv] [dv1, bv1] w' wc) ∧ Below b w' wc)
    case first =>
      by_cases hk0 : (0 : Int) < (W.kept : Int)
      · have c0 : w'.cell? ⟨b, 0, none⟩ = some dv := Lib.cell_of_heap H.out.blk 0
        have f0 : w'.frozen? ⟨b, 0, none⟩ = false := Lib.frozen_of_heap H.out.blk 0
        have hne := own_ne H.out.row H.out.blk (by decide)
        have fA : ∀ o, (w'.alloc o).frozen? ⟨b, 0, none⟩ = false := fun o => Lib.frozen_of_heap ((Lib.alloc_old w' o b hlt).trans H.out.blk) 0
        go_upto_region 2 with fail
        have cA : ∀ o, (w'.alloc o).cell? ⟨b, 0, none⟩ = some dv := fun o => Lib.cell_of_heap ((Lib.alloc_old w' o b hlt).trans H.out.blk) 0
        go_region_law ((refine step_append_lies _ (by rfl) _ _ _ (by rfl) b 42 i0 _ 3 32 Try.underlying25 hi hz0 hz1 hz2 rfl (by omega) dv _ _ (by rfl) ((H.out.row.alloc _).drew) ⟨w'.heap.size, 0, none⟩ 1 1 [.int .i64 1, .int .i64 W.kept, .string ⟨#[]⟩] (by rfl) (by rfl) (World.news_of_block (cs := #[.int .i64 1, .int .i64 W.kept, .string ⟨#[]⟩]) (t := 42) (fr := (0, 0)) (heap_alloc_new w' _)) (by simp [Value.oneCell']) (by omega) (by unfold maxLen; omega) (by omega) (by simp; omega) (w'.heap.size + 1) (by simp) ?_; intro gg cap w1 hown1 hgrow hat hlt1; have d0 : w1.cell? ⟨b, 0, none⟩ = some dv := (hgrow.cell_far _ (by simp; omega) (Ne.symm hne)).trans (cA _); have d1 : w1.frozen? ⟨b, 0, none⟩ = false := (hgrow.frozen_far _ (by simp; omega) (Ne.symm hne)).trans (fA _)))
        all_goals
          go_wp2
          go_meet
          have hx : ∀ o, ((w'.alloc o).drew).heap[b]? = some (.cells #[dv, .int .i64 W.kept, pa, bv, .int .i64 W.gone] 63 (0, 0)) := fun o => (Lib.alloc_old w' o b hlt).trans H.out.blk
          obtain ⟨p1, p2, p3, p4, p5⟩ := push_facts (p := K W.kept) (hx _) (H.out.row.alloc _) hown1 rfl hgrow (fun k hk => by simp only [Value.ownBlock, Option.some.injEq] at hk; subst hk; simpa using hat)
          have hkp : kp W.kept = [K W.kept] := by rw [kp, if_neg (by omega)]
          exact ⟨⟨_, pa, bv, ⟨p1, H.out.adr, by rw [hkp]; exact p2, p4 _ _ (H.out.buf.alloc _), H.out.non⟩, (((Wrote.refl b [dv, bv] w').alloc _).drew).trans p5⟩, (((Below.refl b w').alloc (by omega) _).drew).trans p3⟩
      · have hkp : kp W.kept = [] := by rw [kp, if_pos (by omega)]
        go_wp2
        go_meet
        exact ⟨⟨dv, pa, bv, ⟨H.out.blk, H.out.adr, by rw [hkp, List.append_nil]; exact H.out.row, H.out.buf, H.out.non⟩, Wrote.refl _ _ _⟩, Below.refl _ _⟩
    case rest =>
      clear c1 c4 q1 q2 H hlt
      obtain ⟨⟨dv1, pa1, bv1, h0, hW1⟩, hB1⟩ := hcut
      have HW1 : Hid (Wrote b [dv, bv] [dv1, bv1] w' wc) := hW1
      clear hW1
      have hlt := lt_of_blk h0.blk
      obtain ⟨L1, hL1⟩ : ∃ L1, L1 = W.done ++ kp W.kept := ⟨_, rfl⟩
      rw [← hL1] at h0
      have hd1 : L1.length ≤ 1001 := by rw [hL1, List.length_append]; have := len_kp W.kept; omega
      have HL1 : Hid (L1 = W.done ++ kp W.kept) := hL1
      clear hL1
      have H0 : Hid (WrAt b ⟨L1, W.kept, W.put, W.gone⟩ wc dv1 pa1 bv1) := h0
      have hB1' : Hid (Below b w' wc) := hB1
      clear h0 hB1
      go_upto_if 37 with (go_at_call 54; refine (bLen_any H0.out.bld).mono ?_; rintro e wx ⟨rfl, rfl⟩)
      go_cut [] from 2 (fun wd => (∃ dv2 pa2 bv2, WrHalf b (L1 ++ ip W.put) W.kept W.gone wd dv2 pa2 bv2 ∧ Wrote b [dv1, bv1] [dv2, bv2] wx wd) ∧ Below b wx wd)
      case first =>
        by_cases hp0 : W.put = []
        · have hip : ip W.put = [] := by rw [ip, if_pos hp0]
          have hlen0 : ¬ ((0 : Int) < (W.put.length : Int)) := by rw [hp0]; decide
          go_wp2
          go_meet
          exact ⟨⟨dv1, pa1, bv1, ⟨H0.out.blk, by rw [hip, List.append_nil]; exact H0.out.row⟩, Wrote.refl _ _ _⟩, Below.refl _ _⟩
        · have hlen1 : W.put.length ≠ 0 := by simpa using hp0
          have hlen0 : (0 : Int) < (W.put.length : Int) := by omega
          clear hlen1
          have HP0 : Hid (W.put ≠ []) := hp0
          clear hp0
          have HBl : Hid (BldAt 63 b 2 #[dv1, .int .i64 W.kept, pa1, bv1, .int .i64 W.gone] W.put wx.drew) := ⟨H0.out.blk, H0.out.bld.adr, H0.out.bld.buf⟩
          have c0 : wx.cell? ⟨b, 0, none⟩ = some dv1 := Lib.cell_of_heap H0.out.blk 0
          have hne := own_ne H0.out.row H0.out.blk (by decide)
          go_upto_region 4 with fail
          go_region_law (first
            | (go_simp; go_at_call 42; refine (bString_some HBl.out HP0.out (by decide)).mono ?_; rintro e w9 ⟨rfl, hblk9, hb9, hk9, hw9⟩; have hlt9 := lt_of_blk hblk9; have hrow9 : w9.ownsRow b 42 3 dv1 L1.length (rowOf L1) := row_others (w := wx.drew) H0.out.row H0.out.blk hk9; have cA9 : ∀ o, (w9.alloc o).cell? ⟨b, 0, none⟩ = some dv1 := fun o => Lib.cell_of_heap ((Lib.alloc_old w9 o b hlt9).trans hblk9) 0; have fA9 : ∀ o, (w9.alloc o).frozen? ⟨b, 0, none⟩ = false := fun o => Lib.frozen_of_heap ((Lib.alloc_old w9 o b hlt9).trans hblk9) 0; have c09 : w9.cell? ⟨b, 0, none⟩ = some dv1 := Lib.cell_of_heap hblk9 0; have HB9 : Hid (w9.heap[b]? = some (.cells #[dv1, .int .i64 W.kept, pa1, bv1, .int .i64 W.gone] 63 (0, 0)) ∧ Below b wx.drew w9 ∧ Wrote b [bv1] [bv1] wx.drew w9) := ⟨hblk9, hb9, hw9 bv1 rfl⟩; clear hblk9 hb9 hk9 hw9)
            | (refine step_append_lies _ (by rfl) _ _ _ (by rfl) b 42 i0 _ 3 32 Try.underlying25 hi hz0 hz1 hz2 rfl (by omega) dv1 _ _ (by rfl) (hrow9.alloc _) ⟨w9.heap.size, 0, none⟩ 1 1 [.int .i64 2, .int .i64 0, .string (bs W.put)] (by rfl) (by rfl) (World.news_of_block (cs := #[.int .i64 2, .int .i64 0, .string (bs W.put)]) (t := 42) (fr := (0, 0)) (heap_alloc_new w9 _)) (by simp [Value.oneCell']) (by omega) (by unfold maxLen; omega) (by omega) (by simp; omega) (w9.heap.size + 1) (by simp) ?_; intro gg cap w1 hown1 hgrow hat hlt1; have d0 : w1.cell? ⟨b, 0, none⟩ = some dv1 := (hgrow.cell_far _ (by simp; omega) (Ne.symm hne)).trans (cA9 _); have d1 : w1.frozen? ⟨b, 0, none⟩ = false := (hgrow.frozen_far _ (by simp; omega) (Ne.symm hne)).trans (fA9 _)))
          all_goals
            go_wp2
            go_meet
            obtain ⟨hblk9, hb9, hw9⟩ := HB9.out
            have hx : ∀ o, (w9.alloc o).heap[b]? = some (.cells #[dv1, .int .i64 W.kept, pa1, bv1, .int .i64 W.gone] 63 (0, 0)) := fun o => (Lib.alloc_old w9 o b hlt9).trans hblk9
            obtain ⟨p1, p2, p3, p4, p5⟩ := push_facts (p := I W.put) (hx _) (hrow9.alloc _) hown1 rfl hgrow (fun k hk => by simp only [Value.ownBlock, Option.some.injEq] at hk; subst hk; simpa using hat)
            have hip : ip W.put = [I W.put] := by rw [ip, if_neg HP0.out]
            exact ⟨⟨_, pa1, bv1, ⟨p1, by rw [hip]; exact p2⟩, ((((Wrote.refl b [dv1, bv1] wx).drew).trans hw9.more).alloc _).trans p5⟩, ((Below.refl b wx).drew.trans (hb9.alloc (by omega) _)).trans p3⟩
      case rest =>
        obtain ⟨⟨dv2, pa2, bv2, h2, hW2⟩, hB2⟩ := hcut
        have HW2 : Hid (Wrote b [dv1, bv1] [dv2, bv2] wx wc) := hW2
        clear hW2
        have hlt := lt_of_blk h2.blk
        obtain ⟨L2, hL2⟩ : ∃ L2, L2 = L1 ++ ip W.put := ⟨_, rfl⟩
        have hd2 : L2.length ≤ 1002 := by rw [hL2, List.length_append]; have := len_ip W.put; omega
        rw [← hL2] at h2
        have HL2 : Hid (L2 = L1 ++ ip W.put) := hL2
        clear hL2
        have H2 : Hid (WrHalf b L2 W.kept W.gone wc dv2 pa2 bv2) := h2
        have hB2' : Hid (Below b wx wc) := hB2
        have c4 : wc.cell? ⟨b, 4, none⟩ = some (.int .i64 W.gone) := Lib.cell_of_heap h2.blk 4
        have c0 : wc.cell? ⟨b, 0, none⟩ = some dv2 := Lib.cell_of_heap h2.blk 0
        clear h2 hB2 H0
        go_upto_if 56 with fail
        go_cut [] from 2 (fun wd => (∃ dv3 pa3 bv3, WrHalf b (L2 ++ dp W.gone) W.kept W.gone wd dv3 pa3 bv3 ∧ Wrote b [dv2, bv2] [dv3, bv3] wc wd) ∧ Below b wc wd)
        case first =>
          by_cases hk0 : (0 : Int) < (W.gone : Int)
          · have f0 : wc.frozen? ⟨b, 0, none⟩ = false := Lib.frozen_of_heap H2.out.blk 0
            have hne := own_ne H2.out.row H2.out.blk (by decide)
            have fA : ∀ o, (wc.alloc o).frozen? ⟨b, 0, none⟩ = false := fun o => Lib.frozen_of_heap ((Lib.alloc_old wc o b hlt).trans H2.out.blk) 0
            have cA : ∀ o, (wc.alloc o).cell? ⟨b, 0, none⟩ = some dv2 := fun o => Lib.cell_of_heap ((Lib.alloc_old wc o b hlt).trans H2.out.blk) 0
            go_upto_region 6 with fail
            go_region_law ((refine step_append_lies _ (by rfl) _ _ _ (by rfl) b 42 i0 _ 3 32 Try.underlying25 hi hz0 hz1 hz2 rfl (by omega) dv2 _ _ (by rfl) ((H2.out.row.alloc _).drew) ⟨wc.heap.size, 0, none⟩ 1 1 [.int .i64 3, .int .i64 W.gone, .string ⟨#[]⟩] (by rfl) (by rfl) (World.news_of_block (cs := #[.int .i64 3, .int .i64 W.gone, .string ⟨#[]⟩]) (t := 42) (fr := (0, 0)) (heap_alloc_new wc _)) (by simp [Value.oneCell']) (by omega) (by unfold maxLen; omega) (by omega) (by simp; omega) (wc.heap.size + 1) (by simp) ?_; intro gg cap w1 hown1 hgrow hat hlt1; have d0 : w1.cell? ⟨b, 0, none⟩ = some dv2 := (hgrow.cell_far _ (by simp; omega) (Ne.symm hne)).trans (cA _); have d1 : w1.frozen? ⟨b, 0, none⟩ = false := (hgrow.frozen_far _ (by simp; omega) (Ne.symm hne)).trans (fA _)))
            all_goals
              go_wp2
              go_meet
              have hx : ∀ o, ((wc.alloc o).drew).heap[b]? = some (.cells #[dv2, .int .i64 W.kept, pa2, bv2, .int .i64 W.gone] 63 (0, 0)) := fun o => (Lib.alloc_old wc o b hlt).trans H2.out.blk
              obtain ⟨p1, p2, p3, p4, p5⟩ := push_facts (p := D W.gone) (hx _) (H2.out.row.alloc _) hown1 rfl hgrow (fun k hk => by simp only [Value.ownBlock, Option.some.injEq] at hk; subst hk; simpa using hat)
              have hkp : dp W.gone = [D W.gone] := by rw [dp, if_neg (by omega)]
              exact ⟨⟨_, pa2, bv2, ⟨p1, by rw [hkp]; exact p2⟩, (((Wrote.refl b [dv2, bv2] wc).alloc _).drew).trans p5⟩, (((Below.refl b wc).alloc (by omega) _).drew).trans p3⟩
          · have hkp : dp W.gone = [] := by rw [dp, if_pos (by omega)]
            go_wp2
            go_meet
            exact ⟨⟨dv2, pa2, bv2, ⟨H2.out.blk, by rw [hkp, List.append_nil]; exact H2.out.row⟩, Wrote.refl _ _ _⟩, Below.refl _ _⟩
        case rest =>
          obtain ⟨⟨dv3, pa3, bv3, h3, hW3⟩, hB3⟩ := hcut
          have HW3 : Hid (Wrote b [dv2, bv2] [dv3, bv3] _ wc) := hW3
          clear hW3
          clear c0 c4 hlt
          rename_i wold
          have hlt3 := lt_of_blk h3.blk
          have e1 : wc.cell? ⟨b, 1, none⟩ = some (.int .i64 W.kept) := Lib.cell_of_heap h3.blk 1
          have e4 : wc.cell? ⟨b, 4, none⟩ = some (.int .i64 W.gone) := Lib.cell_of_heap h3.blk 4
          have g1 : wc.frozen? ⟨b, 1, none⟩ = false := Lib.frozen_of_heap h3.blk 1
          have g4 : wc.frozen? ⟨b, 4, none⟩ = false := Lib.frozen_of_heap h3.blk 4
          have hbb : ((wc.setCell ⟨b, 1, none⟩ (.int .i64 0)).setCell ⟨b, 4, none⟩ (.int .i64 0)).heap[b]? = some (.cells #[dv3, .int .i64 0, pa3, bv3, .int .i64 0] 63 (0, 0)) := by
            have := block_set (block_set h3.blk 1 (.int .i64 0)) 4 (.int .i64 0)
            simpa using this
          have H3 : Hid (WrHalf b (L2 ++ dp W.gone) W.kept W.gone wc dv3 pa3 bv3) := h3
          have HBB : Hid (((wc.setCell ⟨b, 1, none⟩ (.int .i64 0)).setCell ⟨b, 4, none⟩ (.int .i64 0)).heap[b]? = some (.cells #[dv3, .int .i64 0, pa3, bv3, .int .i64 0] 63 (0, 0))) := hbb
          clear h3 hbb
          go_wp2_with (go_at_call 55; refine (bReset_any (T := 63) (o := 2) HBB.out (by simp)).mono ?_; rintro e w9 ⟨rfl, rfl⟩)
          go_end0
          have hst : W.settle = ⟨L2 ++ dp W.gone, 0, [], 0⟩ := by rw [Wr.settle, if_neg HU.out, HL2.out, HL1.out]
          have hne := own_ne H3.out.row H3.out.blk (by decide)
          refine ⟨rfl, ⟨dv3, .pointer none, .slice none 0 0, ?_, ?_⟩, ?_⟩
          · rw [hst]
            refine ⟨?_, .inl rfl, own_set (own_set (own_set (own_set H3.out.row hne _ _) hne _ _) hne _ _) hne _ _, World.ownsRow_nil _ _ _ _, fun _ => rfl⟩
            have := block_set (block_set HBB.out 2 (.pointer none)) 3 (.slice none 0 0)
            simpa using this
          · have t1 := HW1.out.trans (HW2.out.trans HW3.out)
            refine Wrote.setCell (Wrote.setCell (Wrote.setCell (Wrote.setCell (t1.sub ?_) _ _) _ _) _ _) _ _
            intro v hv
            simp only [List.mem_cons, List.not_mem_nil, or_false] at hv
            rcases hv with rfl | rfl
            · exact .inl (by simp)
            · exact .inr rfl
          · have t1 := hB1'.out.trans (hB2'.out.trans hB3)
            exact (((t1.setCell (p := ⟨b, 1, none⟩) (Nat.le_refl _) _).setCell (p := ⟨b, 4, none⟩) (Nat.le_refl _) _).setCell (p := ⟨b, 2, none⟩) (Nat.le_refl _) _).setCell (p := ⟨b, 3, none⟩) (Nat.le_refl _) _
  case inr =>
    go_upto_if 18 with (go_at_call 54; refine (bLen_any H.out.bld).mono ?_; rintro e w' ⟨rfl, rfl⟩)
    go_cut [] from 2 (fun wc => (∃ dv1 pa1 bv1, WrAt b { W with done := W.done ++ kp W.kept } wc dv1 pa1 bv1 ∧ Wrote b [dv, bv] [dv1, bv1] w' wc) ∧ Below b w' wc)
    case first =>
      by_cases hk0 : (0 : Int) < (W.kept : Int)
      · have c0 : w'.cell? ⟨b, 0, none⟩ = some dv := Lib.cell_of_heap H.out.blk 0
        have f0 : w'.frozen? ⟨b, 0, none⟩ = false := Lib.frozen_of_heap H.out.blk 0
        have hne := own_ne H.out.row H.out.blk (by decide)
        have fA : ∀ o, (w'.alloc o).frozen? ⟨b, 0, none⟩ = false := fun o => Lib.frozen_of_heap ((Lib.alloc_old w' o b hlt).trans H.out.blk) 0
        go_upto_region 2 with fail
        have cA : ∀ o, (w'.alloc o).cell? ⟨b, 0, none⟩ = some dv := fun o => Lib.cell_of_heap ((Lib.alloc_old w' o b hlt).trans H.out.blk) 0
        go_region_law ((refine step_append_lies _ (by rfl) _ _ _ (by rfl) b 42 i0 _ 3 32 Try.underlying25 hi hz0 hz1 hz2 rfl (by omega) dv _ _ (by rfl) ((H.out.row.alloc _).drew) ⟨w'.heap.size, 0, none⟩ 1 1 [.int .i64 1, .int .i64 W.kept, .string ⟨#[]⟩] (by rfl) (by rfl) (World.news_of_block (cs := #[.int .i64 1, .int .i64 W.kept, .string ⟨#[]⟩]) (t := 42) (fr := (0, 0)) (heap_alloc_new w' _)) (by simp [Value.oneCell']) (by omega) (by unfold maxLen; omega) (by omega) (by simp; omega) (w'.heap.size + 1) (by simp) ?_; intro gg cap w1 hown1 hgrow hat hlt1; have d0 : w1.cell? ⟨b, 0, none⟩ = some dv := (hgrow.cell_far _ (by simp; omega) (Ne.symm hne)).trans (cA _); have d1 : w1.frozen? ⟨b, 0, none⟩ = false := (hgrow.frozen_far _ (by simp; omega) (Ne.symm hne)).trans (fA _)))
        all_goals
          go_wp2
          go_meet
          have hx : ∀ o, ((w'.alloc o).drew).heap[b]? = some (.cells #[dv, .int .i64 W.kept, pa, bv, .int .i64 W.gone] 63 (0, 0)) := fun o => (Lib.alloc_old w' o b hlt).trans H.out.blk
          obtain ⟨p1, p2, p3, p4, p5⟩ := push_facts (p := K W.kept) (hx _) (H.out.row.alloc _) hown1 rfl hgrow (fun k hk => by simp only [Value.ownBlock, Option.some.injEq] at hk; subst hk; simpa using hat)
          have hkp : kp W.kept = [K W.kept] := by rw [kp, if_neg (by omega)]
          exact ⟨⟨_, pa, bv, ⟨p1, H.out.adr, by rw [hkp]; exact p2, p4 _ _ (H.out.buf.alloc _), H.out.non⟩, (((Wrote.refl b [dv, bv] w').alloc _).drew).trans p5⟩, (((Below.refl b w').alloc (by omega) _).drew).trans p3⟩
      · have hkp : kp W.kept = [] := by rw [kp, if_pos (by omega)]
        go_wp2
        go_meet
        exact ⟨⟨dv, pa, bv, ⟨H.out.blk, H.out.adr, by rw [hkp, List.append_nil]; exact H.out.row, H.out.buf, H.out.non⟩, Wrote.refl _ _ _⟩, Below.refl _ _⟩
    case rest =>
      clear c1 c4 q1 H hlt
      obtain ⟨⟨dv1, pa1, bv1, h0, hW1⟩, hB1⟩ := hcut
      have HW1 : Hid (Wrote b [dv, bv] [dv1, bv1] w' wc) := hW1
      clear hW1
      have hlt := lt_of_blk h0.blk
      obtain ⟨L1, hL1⟩ : ∃ L1, L1 = W.done ++ kp W.kept := ⟨_, rfl⟩
      rw [← hL1] at h0
      have hd1 : L1.length ≤ 1001 := by rw [hL1, List.length_append]; have := len_kp W.kept; omega
      have HL1 : Hid (L1 = W.done ++ kp W.kept) := hL1
      clear hL1
      have H0 : Hid (WrAt b ⟨L1, W.kept, W.put, W.gone⟩ wc dv1 pa1 bv1) := h0
      have hB1' : Hid (Below b w' wc) := hB1
      clear h0 hB1
      go_upto_if 37 with (go_at_call 54; refine (bLen_any H0.out.bld).mono ?_; rintro e wx ⟨rfl, rfl⟩)
      go_cut [] from 2 (fun wd => (∃ dv2 pa2 bv2, WrHalf b (L1 ++ ip W.put) W.kept W.gone wd dv2 pa2 bv2 ∧ Wrote b [dv1, bv1] [dv2, bv2] wx wd) ∧ Below b wx wd)
      case first =>
        by_cases hp0 : W.put = []
        · have hip : ip W.put = [] := by rw [ip, if_pos hp0]
          have hlen0 : ¬ ((0 : Int) < (W.put.length : Int)) := by rw [hp0]; decide
          go_wp2
          go_meet
          exact ⟨⟨dv1, pa1, bv1, ⟨H0.out.blk, by rw [hip, List.append_nil]; exact H0.out.row⟩, Wrote.refl _ _ _⟩, Below.refl _ _⟩
        · have hlen1 : W.put.length ≠ 0 := by simpa using hp0
          have hlen0 : (0 : Int) < (W.put.length : Int) := by omega
          clear hlen1
          have HP0 : Hid (W.put ≠ []) := hp0
          clear hp0
          have HBl : Hid (BldAt 63 b 2 #[dv1, .int .i64 W.kept, pa1, bv1, .int .i64 W.gone] W.put wx.drew) := ⟨H0.out.blk, H0.out.bld.adr, H0.out.bld.buf⟩
          have c0 : wx.cell? ⟨b, 0, none⟩ = some dv1 := Lib.cell_of_heap H0.out.blk 0
          have hne := own_ne H0.out.row H0.out.blk (by decide)
          go_upto_region 4 with fail
          go_region_law (first
            | (go_simp; go_at_call 42; refine (bString_some HBl.out HP0.out (by decide)).mono ?_; rintro e w9 ⟨rfl, hblk9, hb9, hk9, hw9⟩; have hlt9 := lt_of_blk hblk9; have hrow9 : w9.ownsRow b 42 3 dv1 L1.length (rowOf L1) := row_others (w := wx.drew) H0.out.row H0.out.blk hk9; have cA9 : ∀ o, (w9.alloc o).cell? ⟨b, 0, none⟩ = some dv1 := fun o => Lib.cell_of_heap ((Lib.alloc_old w9 o b hlt9).trans hblk9) 0; have fA9 : ∀ o, (w9.alloc o).frozen? ⟨b, 0, none⟩ = false := fun o => Lib.frozen_of_heap ((Lib.alloc_old w9 o b hlt9).trans hblk9) 0; have c09 : w9.cell? ⟨b, 0, none⟩ = some dv1 := Lib.cell_of_heap hblk9 0; have HB9 : Hid (w9.heap[b]? = some (.cells #[dv1, .int .i64 W.kept, pa1, bv1, .int .i64 W.gone] 63 (0, 0)) ∧ Below b wx.drew w9 ∧ Wrote b [bv1] [bv1] wx.drew w9) := ⟨hblk9, hb9, hw9 bv1 rfl⟩; clear hblk9 hb9 hk9 hw9)
            | (refine step_append_lies _ (by rfl) _ _ _ (by rfl) b 42 i0 _ 3 32 Try.underlying25 hi hz0 hz1 hz2 rfl (by omega) dv1 _ _ (by rfl) (hrow9.alloc _) ⟨w9.heap.size, 0, none⟩ 1 1 [.int .i64 2, .int .i64 0, .string (bs W.put)] (by rfl) (by rfl) (World.news_of_block (cs := #[.int .i64 2, .int .i64 0, .string (bs W.put)]) (t := 42) (fr := (0, 0)) (heap_alloc_new w9 _)) (by simp [Value.oneCell']) (by omega) (by unfold maxLen; omega) (by omega) (by simp; omega) (w9.heap.size + 1) (by simp) ?_; intro gg cap w1 hown1 hgrow hat hlt1; have d0 : w1.cell? ⟨b, 0, none⟩ = some dv1 := (hgrow.cell_far _ (by simp; omega) (Ne.symm hne)).trans (cA9 _); have d1 : w1.frozen? ⟨b, 0, none⟩ = false := (hgrow.frozen_far _ (by simp; omega) (Ne.symm hne)).trans (fA9 _)))
          all_goals
            go_wp2
            go_meet
            obtain ⟨hblk9, hb9, hw9⟩ := HB9.out
            have hx : ∀ o, (w9.alloc o).heap[b]? = some (.cells #[dv1, .int .i64 W.kept, pa1, bv1, .int .i64 W.gone] 63 (0, 0)) := fun o => (Lib.alloc_old w9 o b hlt9).trans hblk9
            obtain ⟨p1, p2, p3, p4, p5⟩ := push_facts (p := I W.put) (hx _) (hrow9.alloc _) hown1 rfl hgrow (fun k hk => by simp only [Value.ownBlock, Option.some.injEq] at hk; subst hk; simpa using hat)
            have hip : ip W.put = [I W.put] := by rw [ip, if_neg HP0.out]
            exact ⟨⟨_, pa1, bv1, ⟨p1, by rw [hip]; exact p2⟩, ((((Wrote.refl b [dv1, bv1] wx).drew).trans hw9.more).alloc _).trans p5⟩, ((Below.refl b wx).drew.trans (hb9.alloc (by omega) _)).trans p3⟩
      case rest =>
        obtain ⟨⟨dv2, pa2, bv2, h2, hW2⟩, hB2⟩ := hcut
        have HW2 : Hid (Wrote b [dv1, bv1] [dv2, bv2] wx wc) := hW2
        clear hW2
        have hlt := lt_of_blk h2.blk
        obtain ⟨L2, hL2⟩ : ∃ L2, L2 = L1 ++ ip W.put := ⟨_, rfl⟩
        have hd2 : L2.length ≤ 1002 := by rw [hL2, List.length_append]; have := len_ip W.put; omega
        rw [← hL2] at h2
        have HL2 : Hid (L2 = L1 ++ ip W.put) := hL2
        clear hL2
        have H2 : Hid (WrHalf b L2 W.kept W.gone wc dv2 pa2 bv2) := h2
        have hB2' : Hid (Below b wx wc) := hB2
        have c4 : wc.cell? ⟨b, 4, none⟩ = some (.int .i64 W.gone) := Lib.cell_of_heap h2.blk 4
        have c0 : wc.cell? ⟨b, 0, none⟩ = some dv2 := Lib.cell_of_heap h2.blk 0
        clear h2 hB2 H0
        go_upto_if 56 with fail
        go_cut [] from 2 (fun wd => (∃ dv3 pa3 bv3, WrHalf b (L2 ++ dp W.gone) W.kept W.gone wd dv3 pa3 bv3 ∧ Wrote b [dv2, bv2] [dv3, bv3] wc wd) ∧ Below b wc wd)
        case first =>
          by_cases hk0 : (0 : Int) < (W.gone : Int)
          · have f0 : wc.frozen? ⟨b, 0, none⟩ = false := Lib.frozen_of_heap H2.out.blk 0
            have hne := own_ne H2.out.row H2.out.blk (by decide)
            have fA : ∀ o, (wc.alloc o).frozen? ⟨b, 0, none⟩ = false := fun o => Lib.frozen_of_heap ((Lib.alloc_old wc o b hlt).trans H2.out.blk) 0
            have cA : ∀ o, (wc.alloc o).cell? ⟨b, 0, none⟩ = some dv2 := fun o => Lib.cell_of_heap ((Lib.alloc_old wc o b hlt).trans H2.out.blk) 0
            go_upto_region 6 with fail
            go_region_law ((refine step_append_lies _ (by rfl) _ _ _ (by rfl) b 42 i0 _ 3 32 Try.underlying25 hi hz0 hz1 hz2 rfl (by omega) dv2 _ _ (by rfl) ((H2.out.row.alloc _).drew) ⟨wc.heap.size, 0, none⟩ 1 1 [.int .i64 3, .int .i64 W.gone, .string ⟨#[]⟩] (by rfl) (by rfl) (World.news_of_block (cs := #[.int .i64 3, .int .i64 W.gone, .string ⟨#[]⟩]) (t := 42) (fr := (0, 0)) (heap_alloc_new wc _)) (by simp [Value.oneCell']) (by omega) (by unfold maxLen; omega) (by omega) (by simp; omega) (wc.heap.size + 1) (by simp) ?_; intro gg cap w1 hown1 hgrow hat hlt1; have d0 : w1.cell? ⟨b, 0, none⟩ = some dv2 := (hgrow.cell_far _ (by simp; omega) (Ne.symm hne)).trans (cA _); have d1 : w1.frozen? ⟨b, 0, none⟩ = false := (hgrow.frozen_far _ (by simp; omega) (Ne.symm hne)).trans (fA _)))
            all_goals
              go_wp2
              go_meet
              have hx : ∀ o, ((wc.alloc o).drew).heap[b]? = some (.cells #[dv2, .int .i64 W.kept, pa2, bv2, .int .i64 W.gone] 63 (0, 0)) := fun o => (Lib.alloc_old wc o b hlt).trans H2.out.blk
              obtain ⟨p1, p2, p3, p4, p5⟩ := push_facts (p := D W.gone) (hx _) (H2.out.row.alloc _) hown1 rfl hgrow (fun k hk => by simp only [Value.ownBlock, Option.some.injEq] at hk; subst hk; simpa using hat)
              have hkp : dp W.gone = [D W.gone] := by rw [dp, if_neg (by omega)]
              exact ⟨⟨_, pa2, bv2, ⟨p1, by rw [hkp]; exact p2⟩, (((Wrote.refl b [dv2, bv2] wc).alloc _).drew).trans p5⟩, (((Below.refl b wc).alloc (by omega) _).drew).trans p3⟩
          · have hkp : dp W.gone = [] := by rw [dp, if_pos (by omega)]
            go_wp2
            go_meet
            exact ⟨⟨dv2, pa2, bv2, ⟨H2.out.blk, by rw [hkp, List.append_nil]; exact H2.out.row⟩, Wrote.refl _ _ _⟩, Below.refl _ _⟩
        case rest =>
          obtain ⟨⟨dv3, pa3, bv3, h3, hW3⟩, hB3⟩ := hcut
          have HW3 : Hid (Wrote b [dv2, bv2] [dv3, bv3] _ wc) := hW3
          clear hW3
          clear c0 c4 hlt
          rename_i wold
          have hlt3 := lt_of_blk h3.blk
          have e1 : wc.cell? ⟨b, 1, none⟩ = some (.int .i64 W.kept) := Lib.cell_of_heap h3.blk 1
          have e4 : wc.cell? ⟨b, 4, none⟩ = some (.int .i64 W.gone) := Lib.cell_of_heap h3.blk 4
          have g1 : wc.frozen? ⟨b, 1, none⟩ = false := Lib.frozen_of_heap h3.blk 1
          have g4 : wc.frozen? ⟨b, 4, none⟩ = false := Lib.frozen_of_heap h3.blk 4
          have hbb : ((wc.setCell ⟨b, 1, none⟩ (.int .i64 0)).setCell ⟨b, 4, none⟩ (.int .i64 0)).heap[b]? = some (.cells #[dv3, .int .i64 0, pa3, bv3, .int .i64 0] 63 (0, 0)) := by
            have := block_set (block_set h3.blk 1 (.int .i64 0)) 4 (.int .i64 0)
            simpa using this
          have H3 : Hid (WrHalf b (L2 ++ dp W.gone) W.kept W.gone wc dv3 pa3 bv3) := h3
          have HBB : Hid (((wc.setCell ⟨b, 1, none⟩ (.int .i64 0)).setCell ⟨b, 4, none⟩ (.int .i64 0)).heap[b]? = some (.cells #[dv3, .int .i64 0, pa3, bv3, .int .i64 0] 63 (0, 0))) := hbb
          clear h3 hbb
          go_wp2_with (go_at_call 55; refine (bReset_any (T := 63) (o := 2) HBB.out (by simp)).mono ?_; rintro e w9 ⟨rfl, rfl⟩)
          go_end0
          have hst : W.settle = ⟨L2 ++ dp W.gone, 0, [], 0⟩ := by rw [Wr.settle, if_neg HU.out, HL2.out, HL1.out]
          have hne := own_ne H3.out.row H3.out.blk (by decide)
          refine ⟨rfl, ⟨dv3, .pointer none, .slice none 0 0, ?_, ?_⟩, ?_⟩
          · rw [hst]
            refine ⟨?_, .inl rfl, own_set (own_set (own_set (own_set H3.out.row hne _ _) hne _ _) hne _ _) hne _ _, World.ownsRow_nil _ _ _ _, fun _ => rfl⟩
            have := block_set (block_set HBB.out 2 (.pointer none)) 3 (.slice none 0 0)
            simpa using this
          · have t1 := HW1.out.trans (HW2.out.trans HW3.out)
            refine Wrote.setCell (Wrote.setCell (Wrote.setCell (Wrote.setCell (t1.sub ?_) _ _) _ _) _ _) _ _
            intro v hv
            simp only [List.mem_cons, List.not_mem_nil, or_false] at hv
            rcases hv with rfl | rfl
            · exact .inl (by simp)
            · exact .inr rfl
          · have t1 := hB1'.out.trans (hB2'.out.trans hB3)
            exact (((t1.setCell (p := ⟨b, 1, none⟩) (Nat.le_refl _) _).setCell (p := ⟨b, 4, none⟩) (Nat.le_refl _) _).setCell (p := ⟨b, 2, none⟩) (Nat.le_refl _) _).setCell (p := ⟨b, 3, none⟩) (Nat.le_refl _) _

end Go.Proofs.Ytgoaihpaajchaaa
