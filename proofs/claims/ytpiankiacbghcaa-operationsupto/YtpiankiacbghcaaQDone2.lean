/-
  quilllaw.World.done: a Normal, an Apply.
-/
import Derived.Test.YtpiankiacbghcaaQDone1
namespace Go.Proofs.Ytpiankiacbghcaa
open Go.RowKit

theorem rowOf_q (N : List Pt) : rowOf N = rowQ (N.map Pt.q) := by
  induction N with
  | nil => rfl
  | cons p N ih =>
    simp only [rowOf, rowQ, List.map_cons, List.flatMap_cons] at *
    rw [ih]
    rfl

theorem parts_eq (base bl bm : Nat) (kv lv mv : Value) (Vs : List Value) (e : Int) (N : List Pt) (w : World) (hk : Bk base w kv Vs) (hl : w.ownsRow bl 45 3 lv N.length (rowOf N)) (hm : w.ownsRow bm 45 3 mv N.length (rowOf N)) (he : lv = .slice none 0 0 ∨ e = 0) (hb : base ≤ bl) (hV : Vs.length ≤ 100000000) (hN : N.length ≤ 900) :
    Calls Try.prog 63 #[.pointer (some ⟨base, 0, none⟩), lv, .int .i64 e, mv, .int .i64 e] w fun e w' => e = .returned (.bool true) ∧ ∃ kv' one two three, Keeps w base 1 base #[.slice none 0 0, kv, .slice none 0 0] kv lv Vs (-1000 - (Vs.length : Int) / 4) N.length one two three kv' w' := by
  have hlt := lt_of_blk hk.cells
  obtain ⟨am, cm, rfl⟩ := own_shape hm rfl
  rcases hl.2 with ⟨rfl, h0⟩ | ⟨g, cap, cur, rfl, hg, hh, _⟩
  · have hN0 : N = [] := List.eq_nil_of_length_eq_zero h0
    subst hN0
    exact parts_nil base base _ kv Vs e am cm w hk.cells rfl hk.row hV (by omega) (Nat.le_refl _)
  · have he0 : e = 0 := by
      rcases he with h | h
      · cases h
      · exact h
    subst he0
    have hlen : (N.map Pt.q).length = N.length := List.length_map ..
    have h := parts_some base base _ kv Vs ⟨g, 0, none⟩ cap am cm (N.map Pt.q) w hk.cells rfl hk.row (by rw [hlen, ← rowOf_q]; exact own_lower hl hb) (fun hpos => ?_) hV (by omega) (by omega) (Nat.le_refl _)
    · rw [hlen] at h
      exact h
    · rw [hlen] at hpos
      rcases hm.2 with ⟨_, h0⟩ | ⟨g2, cap2, cur2, e2, _⟩
      · omega
      · simp only [Value.slice.injEq, true_and] at e2
        obtain ⟨rfl, rfl⟩ := e2
        refine ⟨g2, 0, rfl, fun k hk2 => ?_⟩
        have hc := hm.cells (g := g2) rfl
        rw [rowOf_q] at hc
        have hadd : ∀ j, (⟨g2, 0, none⟩ : Addr).add j = ⟨g2, j, none⟩ := fun j => by unfold Addr.add; split <;> simp_all
        have h0 := hc (k * 3 + 0) _ (rowQ_at _ k hk2 0 (by omega))
        have h1 := hc (k * 3 + 1) _ (rowQ_at _ k hk2 1 (by omega))
        have h2 := hc (k * 3 + 2) _ (rowQ_at _ k hk2 2 (by omega))
        rw [hadd] at h0 h1 h2
        rw [Nat.zero_add]
        exact ⟨h0, h1, h2⟩

/-- what Normal gives, the program's and the document's. -/
def NormSays (F : FuncId) (Q : List Qt) (A : Int) (N : List Pt) (err : Int) : Prop :=
  ∀ w x, QsAt w x Q → CapOk x → Calls Try.prog F #[x, .int .i64 A] w fun e w' => ∃ lv, e = .returned (.tuple #[lv, .int .i64 err]) ∧ w'.ownsRow w.heap.size 45 3 lv N.length (rowOf N) ∧ (lv = .slice none 0 0 ∨ err = 0) ∧ Below w.heap.size w w'

def ArgOk (base : Nat) (w : World) (v : Value) (Q : List Qt) : Prop := ArgAt base w v Q ∧ CapOk v ∧ Q.length ≤ 1000000000

set_option maxHeartbeats 2000000 in
set_option maxRecDepth 100000 in
theorem done_normal (base : Nat) (A B C D : Int) (t : List UInt8) (vL vM kv : Value) (QL QM : List Qt) (Vs : List Value) (N : List Pt) (err : Int) (w : World) (hk : Bk base w kv Vs) (hV : Vs.length ≤ 100000000) (aL : ArgOk base w vL QL) (aM : ArgOk base w vM QM) (hN : N.length ≤ 900)
    (h1 : NormSays 14 QL A N err) (h2 : NormSays 62 QL A N err) :
    Calls Try.prog 36 #[.pointer (some ⟨base, 0, none⟩), .agg #[.int .i64 1, .int .i64 A, .int .i64 B, .int .i64 C, .int .i64 D, .string (bs t), vL, vM]] w fun e w' => e = .returned (.bool true) ∧ Below base w w' ∧ ∃ kv' Vs', Bk base w' kv' Vs' ∧ Vs'.length ≤ Vs.length + 8 := by
  obtain ⟨aoL, capL, rfl⟩ := aL.1.shape
  obtain ⟨aoM, capM, rfl⟩ := aM.1.shape
  have HL : Hid (ArgOk base w (.slice aoL QL.length capL) QL) := aL
  have HM : Hid (ArgOk base w (.slice aoM QM.length capM) QM) := aM
  have HK : Hid (Bk base w kv Vs ∧ Vs.length ≤ 100000000 ∧ N.length ≤ 900 ∧ base < w.heap.size) := ⟨hk, hV, hN, lt_of_blk hk.cells⟩
  have H1 : Hid (NormSays 14 QL A N err) := h1
  have H2 : Hid (NormSays 62 QL A N err) := h2
  clear aL aM hk hV hN h1 h2
  go_enter Try.func36, Try.ntmps36
  go_wp2_with fail
  refine (lent_any (lim := base) _ QL _ (HL.out.1.same fun q hq => Lib.alloc_old w _ q (by have := HK.out.2.2.2; omega)) (by have := HK.out.2.2.2; simp; omega) HL.out.2.2).mono ?_
  rintro e w1 ⟨x, rfl, hx, hb1⟩
  obtain ⟨ax, cx, rfl⟩ := hx.shape
  have hbx := (hb1.block w.heap.size (by simp)).trans (heap_alloc_new w _)
  have c7 : w1.cell? ⟨w.heap.size, 7, none⟩ = some (.slice aoM QM.length capM) := (Lib.cell_of_heap hbx 7).trans rfl
  have hz1 : w.heap.size < w1.heap.size := lt_of_blk hbx
  have HX : Hid (∀ q, q < base → w1.heap[q]? = w.heap[q]?) := fun q hq => by have h0 := HK.out.2.2.2; exact (hb1.block q (by simp; omega)).trans (Lib.alloc_old w _ q (by omega))
  have HS : Hid (∀ y w2, LentAt w1.heap.size w2 (.slice aoM QM.length capM) y QM → Below w1.heap.size w1 w2 → DS w _ (.slice aoL QL.length capL) (.slice aoM QM.length capM) (.slice ax QL.length cx) y QL QM w2) := fun y w2 hy hb2 => DS.start rfl hx hb1 hy hb2
  clear hx hb1 hbx
  go_wp2_with fail
  refine (lent_any (lim := base) _ QM _ (HM.out.1.same HX.out) (by have := HK.out.2.2.2; omega) HM.out.2.2).mono ?_
  rintro e w2 ⟨y, rfl, hy, hb2⟩
  obtain ⟨ay, cy, rfl⟩ := hy.shape
  have HS2 : Hid (DS w _ (.slice aoL QL.length capL) (.slice aoM QM.length capM) (.slice ax QL.length cx) (.slice ay QM.length cy) QL QM w2) := HS.out _ _ hy hb2
  clear hy hb2 c7 HX HS hz1
  have c0 : w2.cell? ⟨w.heap.size, 0, none⟩ = some (.int .i64 1) := (Lib.cell_of_heap HS2.out.box 0).trans rfl
  have c1 : w2.cell? ⟨w.heap.size, 1, none⟩ = some (.int .i64 A) := (Lib.cell_of_heap HS2.out.box 1).trans rfl
  go_wp2_with fail
  refine (H1.out _ _ HS2.out.lx.qs HS2.out.lx.cap).mono ?_
  rintro e w3 ⟨lv, rfl, hl, hz, hb3⟩
  obtain ⟨al, cl, rfl⟩ := own_shape hl rfl
  have HS3 : Hid (DS w _ (.slice aoL QL.length capL) (.slice aoM QM.length capM) (.slice ax QL.length cx) (.slice ay QM.length cy) QL QM w3) := HS2.out.stay hb3
  have HN : Hid (w3.ownsRow w2.heap.size 45 3 (.slice al N.length cl) N.length (rowOf N) ∧ (Value.slice al N.length cl = .slice none 0 0 ∨ err = 0) ∧ Below w2.heap.size w2 w3) := ⟨hl, hz, hb3⟩
  clear hl hz hb3 c0 c1
  have c1 : w3.cell? ⟨w.heap.size, 1, none⟩ = some (.int .i64 A) := (Lib.cell_of_heap HS3.out.box 1).trans rfl
  have c6 : w3.cell? ⟨w.heap.size, 6, none⟩ = some (.slice aoL QL.length capL) := (Lib.cell_of_heap HS3.out.box 6).trans rfl
  go_wp2_with fail
  refine (H2.out _ _ ((HL.out.1.qs (by have := HK.out.2.2.2; omega)).below HS3.out.bel (Nat.le_refl _)) HL.out.2.1).mono ?_
  rintro e w4 ⟨mv, rfl, hm, hz, hb4⟩
  obtain ⟨am, cm, rfl⟩ := own_shape hm rfl
  have HS4 : Hid (DS w _ (.slice aoL QL.length capL) (.slice aoM QM.length capM) (.slice ax QL.length cx) (.slice ay QM.length cy) QL QM w4) := HS3.out.stay hb4
  have HN4 : Hid (w4.ownsRow w2.heap.size 45 3 (.slice al N.length cl) N.length (rowOf N) ∧ w4.ownsRow w3.heap.size 45 3 (.slice am N.length cm) N.length (rowOf N) ∧ w2.heap.size ≤ w4.heap.size) := ⟨own_same HN.out.1 fun g _ hg => hb4.block g hg, hm, by have := HN.out.2.2.size; have := hb4.size; omega⟩
  clear hm hz hb4 c1 c6
  go_wp2_with fail
  refine (parts_eq base w2.heap.size w3.heap.size kv _ _ Vs err N _ (HK.out.1.stay HS4.out.bel) HN4.out.1 HN4.out.2.1 HN.out.2.1 (by have := HK.out.2.2.2; have := HS2.out.bel.size; omega) HK.out.2.1 HK.out.2.2.1).mono ?_
  rintro e w5 ⟨rfl, kv', one, two, three, hK⟩
  have HE : Hid (DE base w _ (.slice aoL QL.length capL) (.slice aoM QM.length capM) (.slice ax QL.length cx) (.slice ay QM.length cy) QL QM kv' (Vs ++ [.slice al N.length cl, one, two, three]) w5) := HS2.out.kept HS4.out HN4.out.2.2 HK.out.1 hK HK.out.2.2.1 fun g hg => ⟨(own_block HN4.out.1 hg).2.1, (own_block HN4.out.1 hg).1⟩
  clear hK
  have c6 : w5.cell? ⟨w.heap.size, 6, none⟩ = some (.slice aoL QL.length capL) := (Lib.cell_of_heap HE.out.box 6).trans rfl
  go_wp2_with fail
  refine (HE.out.first HL.out.1 HL.out.2.2).mono ?_
  rintro e w6 ⟨rfl, hF⟩
  have HF : Hid (DF base w _ _ _ _ _ _ w6) := hF
  clear hF c6
  have c7 : w6.cell? ⟨w.heap.size, 7, none⟩ = some (.slice aoM QM.length capM) := (Lib.cell_of_heap HF.out.box 7).trans rfl
  go_wp2_with fail
  refine (HF.out.second HM.out.1 HM.out.2.2).mono ?_
  rintro e w7 ⟨rfl, hb7, hk7⟩
  have HR : Hid (Below base w w7 ∧ Bk base w7 kv' (Vs ++ [.slice al N.length cl, one, two, three])) := ⟨hb7, hk7⟩
  clear hb7 hk7 c7
  go_wp2
  go_ret
  exact ⟨by simp, HR.out.1, kv', _, HR.out.2, by simp⟩

/-- what Apply gives, the program's and the document's. -/
def ApplySays (F : FuncId) (t : List UInt8) (Q : List Qt) (r : List UInt8) (err : Int) : Prop :=
  ∀ w x, QsAt w x Q → CapOk x → Calls Try.prog F #[.string (bs t), x] w fun e w' => e = .returned (.tuple #[.string (bs r), .int .i64 err]) ∧ Below w.heap.size w w'

set_option maxHeartbeats 2000000 in
set_option maxRecDepth 100000 in
theorem done_apply (base : Nat) (A B C D : Int) (t : List UInt8) (vL vM kv : Value) (QL QM : List Qt) (Vs : List Value) (r : List UInt8) (err : Int) (w : World) (hk : Bk base w kv Vs) (aL : ArgOk base w vL QL) (aM : ArgOk base w vM QM)
    (h1 : ApplySays 16 t QL r err) (h2 : ApplySays 64 t QL r err) :
    Calls Try.prog 36 #[.pointer (some ⟨base, 0, none⟩), .agg #[.int .i64 2, .int .i64 A, .int .i64 B, .int .i64 C, .int .i64 D, .string (bs t), vL, vM]] w fun e w' => e = .returned (.bool true) ∧ Below base w w' ∧ ∃ kv' Vs', Bk base w' kv' Vs' ∧ Vs'.length ≤ Vs.length + 8 := by
  obtain ⟨aoL, capL, rfl⟩ := aL.1.shape
  obtain ⟨aoM, capM, rfl⟩ := aM.1.shape
  have HL : Hid (ArgOk base w (.slice aoL QL.length capL) QL) := aL
  have HM : Hid (ArgOk base w (.slice aoM QM.length capM) QM) := aM
  have HK : Hid (Bk base w kv Vs ∧ True ∧ True ∧ base < w.heap.size) := ⟨hk, trivial, trivial, lt_of_blk hk.cells⟩
  have H1 : Hid (ApplySays 16 t QL r err) := h1
  have H2 : Hid (ApplySays 64 t QL r err) := h2
  clear aL aM hk h1 h2
  go_enter Try.func36, Try.ntmps36
  go_wp2_with fail
  refine (lent_any (lim := base) _ QL _ (HL.out.1.same fun q hq => Lib.alloc_old w _ q (by have := HK.out.2.2.2; omega)) (by have := HK.out.2.2.2; simp; omega) HL.out.2.2).mono ?_
  rintro e w1 ⟨x, rfl, hx, hb1⟩
  obtain ⟨ax, cx, rfl⟩ := hx.shape
  have hbx := (hb1.block w.heap.size (by simp)).trans (heap_alloc_new w _)
  have c7 : w1.cell? ⟨w.heap.size, 7, none⟩ = some (.slice aoM QM.length capM) := (Lib.cell_of_heap hbx 7).trans rfl
  have hz1 : w.heap.size < w1.heap.size := lt_of_blk hbx
  have HX : Hid (∀ q, q < base → w1.heap[q]? = w.heap[q]?) := fun q hq => by have h0 := HK.out.2.2.2; exact (hb1.block q (by simp; omega)).trans (Lib.alloc_old w _ q (by omega))
  have HS : Hid (∀ y w2, LentAt w1.heap.size w2 (.slice aoM QM.length capM) y QM → Below w1.heap.size w1 w2 → DS w _ (.slice aoL QL.length capL) (.slice aoM QM.length capM) (.slice ax QL.length cx) y QL QM w2) := fun y w2 hy hb2 => DS.start rfl hx hb1 hy hb2
  clear hx hb1 hbx
  go_wp2_with fail
  refine (lent_any (lim := base) _ QM _ (HM.out.1.same HX.out) (by have := HK.out.2.2.2; omega) HM.out.2.2).mono ?_
  rintro e w2 ⟨y, rfl, hy, hb2⟩
  obtain ⟨ay, cy, rfl⟩ := hy.shape
  have HS2 : Hid (DS w _ (.slice aoL QL.length capL) (.slice aoM QM.length capM) (.slice ax QL.length cx) (.slice ay QM.length cy) QL QM w2) := HS.out _ _ hy hb2
  clear hy hb2 c7 HX HS hz1
  have c0 : w2.cell? ⟨w.heap.size, 0, none⟩ = some (.int .i64 2) := (Lib.cell_of_heap HS2.out.box 0).trans rfl
  have c5 : w2.cell? ⟨w.heap.size, 5, none⟩ = some (.string (bs t)) := (Lib.cell_of_heap HS2.out.box 5).trans rfl
  go_wp2_with fail
  refine (H1.out _ _ HS2.out.lx.qs HS2.out.lx.cap).mono ?_
  rintro e w3 ⟨rfl, hb3⟩
  have HS3 : Hid (DS w _ (.slice aoL QL.length capL) (.slice aoM QM.length capM) (.slice ax QL.length cx) (.slice ay QM.length cy) QL QM w3) := HS2.out.stay hb3
  clear hb3 c0 c5
  have c5 : w3.cell? ⟨w.heap.size, 5, none⟩ = some (.string (bs t)) := (Lib.cell_of_heap HS3.out.box 5).trans rfl
  have c6 : w3.cell? ⟨w.heap.size, 6, none⟩ = some (.slice aoL QL.length capL) := (Lib.cell_of_heap HS3.out.box 6).trans rfl
  go_wp2_with fail
  refine (H2.out _ _ ((HL.out.1.qs (by have := HK.out.2.2.2; omega)).below HS3.out.bel (Nat.le_refl _)) HL.out.2.1).mono ?_
  rintro e w5 ⟨rfl, hb4⟩
  have HE : Hid (DE base w _ (.slice aoL QL.length capL) (.slice aoM QM.length capM) (.slice ax QL.length cx) (.slice ay QM.length cy) QL QM kv Vs w5) := (HS3.out.stay hb4).same HK.out.1
  clear hb4 c5 c6
  have c6 : w5.cell? ⟨w.heap.size, 6, none⟩ = some (.slice aoL QL.length capL) := (Lib.cell_of_heap HE.out.box 6).trans rfl
  go_wp2_with fail
  refine (HE.out.first HL.out.1 HL.out.2.2).mono ?_
  rintro e w6 ⟨rfl, hF⟩
  have HF : Hid (DF base w _ _ _ _ _ _ w6) := hF
  clear hF c6
  have c7 : w6.cell? ⟨w.heap.size, 7, none⟩ = some (.slice aoM QM.length capM) := (Lib.cell_of_heap HF.out.box 7).trans rfl
  go_wp2_with fail
  refine (HF.out.second HM.out.1 HM.out.2.2).mono ?_
  rintro e w7 ⟨rfl, hb7, hk7⟩
  have HR : Hid (Below base w w7 ∧ Bk base w7 kv Vs) := ⟨hb7, hk7⟩
  clear hb7 hk7 c7
  go_wp2
  go_ret
  exact ⟨by simp, HR.out.1, kv, _, HR.out.2, by omega⟩

end Go.Proofs.Ytpiankiacbghcaa
