/-
  quilllaw.World.done: a Compose, a Transform, an Invert.
  quilllaw.Algebra.
-/
import Derived.Test.YtpiankiacbghcaaQDone2
import Derived.Test.YtpiankiacbghcaaBGlue
import Derived.Test.YtpiankiacbghcaaQSmall
import Derived.Test.YtpiankiacbghcaaBInv
import Derived.Test.YtpiankiacbghcaaBDoc2
namespace Go.Proofs.Ytpiankiacbghcaa
open Go.RowKit

theorem by_hid3 {p : Prop} (h : p) : Hid p := h

/-- the book grows once more. -/
theorem DE.kept {base n : Nat} {w w2 wi w' : World} {vs : Array Value} {vL vM x y kv lv one two three kv' : Value} {QL QM : List Qt} {Vs : List Value} (h : DE base w vs vL vM x y QL QM kv Vs wi) (ho : Out w.heap.size w2.heap.size base kv Vs) (h2 : DS w vs vL vM x y QL QM w2) (hz : w2.heap.size ≤ wi.heap.size)
    (hK : Keeps wi base 1 base #[.slice none 0 0, kv, .slice none 0 0] kv lv Vs (-1000 - (Vs.length : Int) / 4) n one two three kv' w') (hn : n ≤ 900) (hlv : ∀ g, lv.ownBlock = some g → w2.heap.size ≤ g ∧ g < wi.heap.size ∧ ∀ i (_ : i < Vs.length), Vs[i].ownBlock ≠ some g) : DE base w vs vL vM x y QL QM kv' (Vs ++ [lv, one, two, three]) w' := by
  have hs2 := lt_of_blk h2.box
  have hbl := ho.1
  have hold : ∀ q, w.heap.size ≤ q → q < w2.heap.size → w'.heap[q]? = wi.heap[q]? := by
    intro q h1 h2
    refine hK.old q (by omega) (by omega) (fun e => ?_) fun e => ?_
    · have := (hlv q e).1
      omega
    · rcases ho.2.1 q e with h3 | h3 <;> omega
  have hgx : ∀ g, x.ownBlock = some g ∨ y.ownBlock = some g → w.heap.size ≤ g ∧ g < w2.heap.size := by
    intro g hg
    rcases hg with hg | hg
    · have := h2.lx.low g hg
      omega
    · have := h2.ly.low g hg
      omega
  refine ⟨h.bel.trans hK.bel, (hold _ (Nat.le_refl _) hs2).trans h.box, h.lx.same fun g hg _ => hold g (hgx g (.inl hg)).1 (hgx g (.inl hg)).2, h.ly.same fun g hg _ => hold g (hgx g (.inr hg)).1 (hgx g (.inr hg)).2, h.apart, ?_, w2.heap.size, ?_, fun g hg => (hgx g hg).2⟩
  · exact h.book.kept hK hn fun g hg => ⟨(hlv g hg).2.1, (hlv g hg).2.2⟩
  · exact ho.kept hK hz fun g hg => .inr (hlv g hg).1

set_option maxHeartbeats 2000000 in
set_option maxRecDepth 100000 in
theorem done_compose (base : Nat) (A B C D : Int) (t : List UInt8) (vL vM kv : Value) (QL QM : List Qt) (Vs : List Value) (N : List Pt) (err : Int) (w : World) (hk : Bk base w kv Vs) (hV : Vs.length ≤ 100000000) (aL : ArgOk base w vL QL) (aM : ArgOk base w vM QM) 
    (h1 : CompSays true 19 QL QM A N err) (h2 : CompSays false 65 QL QM A N err) :
    Calls Try.prog 36 #[.pointer (some ⟨base, 0, none⟩), .agg #[.int .i64 3, .int .i64 A, .int .i64 B, .int .i64 C, .int .i64 D, .string (bs t), vL, vM]] w fun e w' => e = .returned (.bool true) ∧ Below base w w' ∧ ∃ kv' Vs', Bk base w' kv' Vs' ∧ Vs'.length ≤ Vs.length + 8 := by
  obtain ⟨aoL, capL, rfl⟩ := aL.1.shape
  obtain ⟨aoM, capM, rfl⟩ := aM.1.shape
  have HL : Hid (ArgOk base w (.slice aoL QL.length capL) QL) := aL
  have HM : Hid (ArgOk base w (.slice aoM QM.length capM) QM) := aM
  have HK : Hid (Bk base w kv Vs ∧ Vs.length ≤ 100000000 ∧ True ∧ base < w.heap.size) := ⟨hk, hV, trivial, lt_of_blk hk.cells⟩
  have H1 : Hid (CompSays true 19 QL QM A N err) := h1
  have H2 : Hid (CompSays false 65 QL QM A N err) := h2
  clear aL aM hk hV h1 h2
  go_enter Try.func36, Try.ntmps36
  go_wp2_with fail
  refine (lent_any (lim := base) _ QL _ (HL.out.1.same fun q hq => Lib.alloc_old w _ q (by have := HK.out.2.2.2; omega)) (by have := HK.out.2.2.2; simp; omega) HL.out.2.2).mono ?_
  rintro e w1 ⟨x, rfl, hx, hb1⟩
  obtain ⟨ax, cx, rfl⟩ := hx.shape
  have hbx := (hb1.block w.heap.size (by simp)).trans (heap_alloc_new w _)
  have c7 : w1.cell? ⟨w.heap.size, 7, none⟩ = some (.slice aoM QM.length capM) := (Lib.cell_of_heap hbx 7).trans rfl
  have hz1 : w.heap.size < w1.heap.size := lt_of_blk hbx
  have HX : Hid (∀ q, q < base → w1.heap[q]? = w.heap[q]?) := fun q hq => by have h0 := HK.out.2.2.2; exact (hb1.block q (by simp; omega)).trans (Lib.alloc_old w _ q (by omega))
  have HS : Hid (∀ y w2, LentAt w1.heap.size w2 (.slice aoM QM.length capM) y QM → Below w1.heap.size w1 w2 → DS w _ (.slice aoL QL.length capL) (.slice aoM QM.length capM) (.slice ax QL.length cx) y QL QM w2) := fun y w2 hy hb2 => DS.start rfl hx hb1 hy hb2
  clear hx hb1 hbx
  go_wp2_with fail
  refine (lent_any (lim := base) _ QM _ (HM.out.1.same HX.out) (by have := HK.out.2.2.2; omega) HM.out.2.2).mono ?_
  rintro e w2 ⟨y, rfl, hy, hb2⟩
  obtain ⟨ay, cy, rfl⟩ := hy.shape
  have HS2 : Hid (DS w _ (.slice aoL QL.length capL) (.slice aoM QM.length capM) (.slice ax QL.length cx) (.slice ay QM.length cy) QL QM w2) := HS.out _ _ hy hb2
  clear hy hb2 c7 HX HS hz1
  have c0 : w2.cell? ⟨w.heap.size, 0, none⟩ = some (.int .i64 3) := (Lib.cell_of_heap HS2.out.box 0).trans rfl
  have c1 : w2.cell? ⟨w.heap.size, 1, none⟩ = some (.int .i64 A) := (Lib.cell_of_heap HS2.out.box 1).trans rfl
  go_wp2_with fail
  refine (H1.out _ _ _ HS2.out.lx.qs HS2.out.lx.cap HS2.out.ly.qs HS2.out.ly.cap).mono ?_
  rintro e w3 ⟨lv, rfl, hl, hz, hn9, hb3⟩
  obtain ⟨al, cl, rfl⟩ := own_shape hl rfl
  have HS3 : Hid (DS w _ (.slice aoL QL.length capL) (.slice aoM QM.length capM) (.slice ax QL.length cx) (.slice ay QM.length cy) QL QM w3) := HS2.out.stay hb3
  have HN : Hid (w3.ownsRow w2.heap.size 45 3 (.slice al N.length cl) N.length (rowOf N) ∧ (Value.slice al N.length cl = .slice none 0 0 ∨ err = 0) ∧ Below w2.heap.size w2 w3 ∧ N.length ≤ 900) := ⟨hl, hz, hb3, hn9 rfl⟩
  clear hl hz hb3 hn9 c0 c1
  have c1 : w3.cell? ⟨w.heap.size, 1, none⟩ = some (.int .i64 A) := (Lib.cell_of_heap HS3.out.box 1).trans rfl
  have c6 : w3.cell? ⟨w.heap.size, 6, none⟩ = some (.slice aoL QL.length capL) := (Lib.cell_of_heap HS3.out.box 6).trans rfl
  have c7 : w3.cell? ⟨w.heap.size, 7, none⟩ = some (.slice aoM QM.length capM) := (Lib.cell_of_heap HS3.out.box 7).trans rfl
  go_wp2_with fail
  refine (H2.out _ _ _ ((HL.out.1.qs (by have := HK.out.2.2.2; omega)).below HS3.out.bel (Nat.le_refl _)) HL.out.2.1 ((HM.out.1.qs (by have := HK.out.2.2.2; omega)).below HS3.out.bel (Nat.le_refl _)) HM.out.2.1).mono ?_
  rintro e w4 ⟨mv, rfl, hm, hz, _, hb4⟩
  obtain ⟨am, cm, rfl⟩ := own_shape hm rfl
  have HS4 : Hid (DS w _ (.slice aoL QL.length capL) (.slice aoM QM.length capM) (.slice ax QL.length cx) (.slice ay QM.length cy) QL QM w4) := HS3.out.stay hb4
  have HN4 : Hid (w4.ownsRow w2.heap.size 45 3 (.slice al N.length cl) N.length (rowOf N) ∧ w4.ownsRow w3.heap.size 45 3 (.slice am N.length cm) N.length (rowOf N) ∧ w2.heap.size ≤ w4.heap.size) := ⟨own_same HN.out.1 fun g _ hg => hb4.block g hg, hm, by have := HN.out.2.2.1.size; have := hb4.size; omega⟩
  clear hm hz hb4 c1 c6 c7
  go_wp2_with fail
  refine (parts_eq base w2.heap.size w3.heap.size kv _ _ Vs err N _ (HK.out.1.stay HS4.out.bel) HN4.out.1 HN4.out.2.1 HN.out.2.1 (by have := HK.out.2.2.2; have := HS2.out.bel.size; omega) HK.out.2.1 HN.out.2.2.2).mono ?_
  rintro e w5 ⟨rfl, kv', one, two, three, hK⟩
  have HE : Hid (DE base w _ (.slice aoL QL.length capL) (.slice aoM QM.length capM) (.slice ax QL.length cx) (.slice ay QM.length cy) QL QM kv' (Vs ++ [.slice al N.length cl, one, two, three]) w5) := HS2.out.kept HS4.out HN4.out.2.2 HK.out.1 hK HN.out.2.2.2 fun g hg => ⟨(own_block HN4.out.1 hg).2.1, (own_block HN4.out.1 hg).1⟩
  clear hK
  have c6 : w5.cell? ⟨w.heap.size, 6, none⟩ = some (.slice aoL QL.length capL) := (Lib.cell_of_heap HE.out.box 6).trans rfl
  go_wp2_with fail
  refine (HE.out.first HL.out.1 HL.out.2.2).mono ?_
  rintro e w6 ⟨rfl, hF⟩
  have HF : Hid (DF base w _ _ _ _ _ _ w6) := hF
  clear hF c6
  have c7 : w6.cell? ⟨w.heap.size, 7, none⟩ = some (.slice aoM QM.length capM) := (Lib.cell_of_heap HF.out.box 7).trans rfl
  go_wp2_with fail
  refine (HF.out.second HM.out.1 HM.out.2.2).mono ?_
  rintro e w7 ⟨rfl, hb7, hk7⟩
  have HR : Hid (Below base w w7 ∧ Bk base w7 kv' (Vs ++ [.slice al N.length cl, one, two, three])) := ⟨hb7, hk7⟩
  clear hb7 hk7 c7
  go_wp2
  go_ret
  exact ⟨by simp, HR.out.1, kv', _, HR.out.2, by simp⟩

set_option maxHeartbeats 2000000 in
set_option maxRecDepth 100000 in
theorem done_invert (base : Nat) (A B C D : Int) (t : List UInt8) (vL vM kv : Value) (QL QM : List Qt) (Vs : List Value) (N : List Pt) (err : Int) (w : World) (hk : Bk base w kv Vs) (hV : Vs.length ≤ 100000000) (aL : ArgOk base w vL QL) (aM : ArgOk base w vM QM) 
    (h1 : InvSays true 21 QL t N err) (h2 : InvSays false 67 QL t N err) :
    Calls Try.prog 36 #[.pointer (some ⟨base, 0, none⟩), .agg #[.int .i64 5, .int .i64 A, .int .i64 B, .int .i64 C, .int .i64 D, .string (bs t), vL, vM]] w fun e w' => e = .returned (.bool true) ∧ Below base w w' ∧ ∃ kv' Vs', Bk base w' kv' Vs' ∧ Vs'.length ≤ Vs.length + 8 := by
  obtain ⟨aoL, capL, rfl⟩ := aL.1.shape
  obtain ⟨aoM, capM, rfl⟩ := aM.1.shape
  have HL : Hid (ArgOk base w (.slice aoL QL.length capL) QL) := aL
  have HM : Hid (ArgOk base w (.slice aoM QM.length capM) QM) := aM
  have HK : Hid (Bk base w kv Vs ∧ Vs.length ≤ 100000000 ∧ True ∧ base < w.heap.size) := ⟨hk, hV, trivial, lt_of_blk hk.cells⟩
  have H1 : Hid (InvSays true 21 QL t N err) := h1
  have H2 : Hid (InvSays false 67 QL t N err) := h2
  clear aL aM hk hV h1 h2
  go_enter Try.func36, Try.ntmps36
  go_wp2_with fail
  refine (lent_any (lim := base) _ QL _ (HL.out.1.same fun q hq => Lib.alloc_old w _ q (by have := HK.out.2.2.2; omega)) (by have := HK.out.2.2.2; simp; omega) HL.out.2.2).mono ?_
  rintro e w1 ⟨x, rfl, hx, hb1⟩
  obtain ⟨ax, cx, rfl⟩ := hx.shape
  have hbx := (hb1.block w.heap.size (by simp)).trans (heap_alloc_new w _)
  have c7 : w1.cell? ⟨w.heap.size, 7, none⟩ = some (.slice aoM QM.length capM) := (Lib.cell_of_heap hbx 7).trans rfl
  have hz1 : w.heap.size < w1.heap.size := lt_of_blk hbx
  have HX : Hid (∀ q, q < base → w1.heap[q]? = w.heap[q]?) := fun q hq => by have h0 := HK.out.2.2.2; exact (hb1.block q (by simp; omega)).trans (Lib.alloc_old w _ q (by omega))
  have HS : Hid (∀ y w2, LentAt w1.heap.size w2 (.slice aoM QM.length capM) y QM → Below w1.heap.size w1 w2 → DS w _ (.slice aoL QL.length capL) (.slice aoM QM.length capM) (.slice ax QL.length cx) y QL QM w2) := fun y w2 hy hb2 => DS.start rfl hx hb1 hy hb2
  clear hx hb1 hbx
  go_wp2_with fail
  refine (lent_any (lim := base) _ QM _ (HM.out.1.same HX.out) (by have := HK.out.2.2.2; omega) HM.out.2.2).mono ?_
  rintro e w2 ⟨y, rfl, hy, hb2⟩
  obtain ⟨ay, cy, rfl⟩ := hy.shape
  have HS2 : Hid (DS w _ (.slice aoL QL.length capL) (.slice aoM QM.length capM) (.slice ax QL.length cx) (.slice ay QM.length cy) QL QM w2) := HS.out _ _ hy hb2
  clear hy hb2 c7 HX HS hz1
  have c0 : w2.cell? ⟨w.heap.size, 0, none⟩ = some (.int .i64 5) := (Lib.cell_of_heap HS2.out.box 0).trans rfl
  have c1 : w2.cell? ⟨w.heap.size, 5, none⟩ = some (.string (bs t)) := (Lib.cell_of_heap HS2.out.box 5).trans rfl
  go_wp2_with fail
  refine (H1.out _ _ HS2.out.lx.qs HS2.out.lx.cap).mono ?_
  rintro e w3 ⟨lv, rfl, hl, hz, hn9, hb3⟩
  obtain ⟨al, cl, rfl⟩ := own_shape hl rfl
  have HS3 : Hid (DS w _ (.slice aoL QL.length capL) (.slice aoM QM.length capM) (.slice ax QL.length cx) (.slice ay QM.length cy) QL QM w3) := HS2.out.stay hb3
  have HN : Hid (w3.ownsRow w2.heap.size 45 3 (.slice al N.length cl) N.length (rowOf N) ∧ (Value.slice al N.length cl = .slice none 0 0 ∨ err = 0) ∧ Below w2.heap.size w2 w3 ∧ N.length ≤ 900) := ⟨hl, hz, hb3, hn9 rfl⟩
  clear hl hz hb3 hn9 c0 c1
  have c1 : w3.cell? ⟨w.heap.size, 5, none⟩ = some (.string (bs t)) := (Lib.cell_of_heap HS3.out.box 5).trans rfl
  have c6 : w3.cell? ⟨w.heap.size, 6, none⟩ = some (.slice aoL QL.length capL) := (Lib.cell_of_heap HS3.out.box 6).trans rfl
  have c7 : w3.cell? ⟨w.heap.size, 7, none⟩ = some (.slice aoM QM.length capM) := (Lib.cell_of_heap HS3.out.box 7).trans rfl
  go_wp2_with fail
  refine (H2.out _ _ ((HL.out.1.qs (by have := HK.out.2.2.2; omega)).below HS3.out.bel (Nat.le_refl _)) HL.out.2.1).mono ?_
  rintro e w4 ⟨mv, rfl, hm, hz, _, hb4⟩
  obtain ⟨am, cm, rfl⟩ := own_shape hm rfl
  have HS4 : Hid (DS w _ (.slice aoL QL.length capL) (.slice aoM QM.length capM) (.slice ax QL.length cx) (.slice ay QM.length cy) QL QM w4) := HS3.out.stay hb4
  have HN4 : Hid (w4.ownsRow w2.heap.size 45 3 (.slice al N.length cl) N.length (rowOf N) ∧ w4.ownsRow w3.heap.size 45 3 (.slice am N.length cm) N.length (rowOf N) ∧ w2.heap.size ≤ w4.heap.size) := ⟨own_same HN.out.1 fun g _ hg => hb4.block g hg, hm, by have := HN.out.2.2.1.size; have := hb4.size; omega⟩
  clear hm hz hb4 c1 c6 c7
  go_wp2_with fail
  refine (parts_eq base w2.heap.size w3.heap.size kv _ _ Vs err N _ (HK.out.1.stay HS4.out.bel) HN4.out.1 HN4.out.2.1 HN.out.2.1 (by have := HK.out.2.2.2; have := HS2.out.bel.size; omega) HK.out.2.1 HN.out.2.2.2).mono ?_
  rintro e w5 ⟨rfl, kv', one, two, three, hK⟩
  have HE : Hid (DE base w _ (.slice aoL QL.length capL) (.slice aoM QM.length capM) (.slice ax QL.length cx) (.slice ay QM.length cy) QL QM kv' (Vs ++ [.slice al N.length cl, one, two, three]) w5) := HS2.out.kept HS4.out HN4.out.2.2 HK.out.1 hK HN.out.2.2.2 fun g hg => ⟨(own_block HN4.out.1 hg).2.1, (own_block HN4.out.1 hg).1⟩
  clear hK
  have c6 : w5.cell? ⟨w.heap.size, 6, none⟩ = some (.slice aoL QL.length capL) := (Lib.cell_of_heap HE.out.box 6).trans rfl
  go_wp2_with fail
  refine (HE.out.first HL.out.1 HL.out.2.2).mono ?_
  rintro e w6 ⟨rfl, hF⟩
  have HF : Hid (DF base w _ _ _ _ _ _ w6) := hF
  clear hF c6
  have c7 : w6.cell? ⟨w.heap.size, 7, none⟩ = some (.slice aoM QM.length capM) := (Lib.cell_of_heap HF.out.box 7).trans rfl
  go_wp2_with fail
  refine (HF.out.second HM.out.1 HM.out.2.2).mono ?_
  rintro e w7 ⟨rfl, hb7, hk7⟩
  have HR : Hid (Below base w w7 ∧ Bk base w7 kv' (Vs ++ [.slice al N.length cl, one, two, three])) := ⟨hb7, hk7⟩
  clear hb7 hk7 c7
  go_wp2
  go_ret
  exact ⟨by simp, HR.out.1, kv', _, HR.out.2, by simp⟩

set_option maxHeartbeats 2000000 in
set_option maxRecDepth 100000 in
theorem done_transform (base : Nat) (A B C D : Int) (t : List UInt8) (vL vM kv : Value) (QL QM : List Qt) (Vs : List Value) (N N2 : List Pt) (err : Int) (w : World) (hk : Bk base w kv Vs) (hV : Vs.length ≤ 90000000) (aL : ArgOk base w vL QL) (aM : ArgOk base w vM QM) 
    (h1 : TraSays true 20 QL QM A N N2 err) (h2 : TraSays false 66 QL QM A N N2 err) :
    Calls Try.prog 36 #[.pointer (some ⟨base, 0, none⟩), .agg #[.int .i64 4, .int .i64 A, .int .i64 B, .int .i64 C, .int .i64 D, .string (bs t), vL, vM]] w fun e w' => e = .returned (.bool true) ∧ Below base w w' ∧ ∃ kv' Vs', Bk base w' kv' Vs' ∧ Vs'.length ≤ Vs.length + 8 := by
  obtain ⟨aoL, capL, rfl⟩ := aL.1.shape
  obtain ⟨aoM, capM, rfl⟩ := aM.1.shape
  have HL : Hid (ArgOk base w (.slice aoL QL.length capL) QL) := aL
  have HM : Hid (ArgOk base w (.slice aoM QM.length capM) QM) := aM
  have HK : Hid (Bk base w kv Vs ∧ Vs.length ≤ 90000000 ∧ True ∧ base < w.heap.size) := ⟨hk, hV, trivial, lt_of_blk hk.cells⟩
  have H1 : Hid (TraSays true 20 QL QM A N N2 err) := h1
  have H2 : Hid (TraSays false 66 QL QM A N N2 err) := h2
  clear aL aM hk hV h1 h2
  go_enter Try.func36, Try.ntmps36
  go_wp2_with fail
  refine (lent_any (lim := base) _ QL _ (HL.out.1.same fun q hq => Lib.alloc_old w _ q (by have := HK.out.2.2.2; omega)) (by have := HK.out.2.2.2; simp; omega) HL.out.2.2).mono ?_
  rintro e w1 ⟨x, rfl, hx, hb1⟩
  obtain ⟨ax, cx, rfl⟩ := hx.shape
  have hbx := (hb1.block w.heap.size (by simp)).trans (heap_alloc_new w _)
  have c7 : w1.cell? ⟨w.heap.size, 7, none⟩ = some (.slice aoM QM.length capM) := (Lib.cell_of_heap hbx 7).trans rfl
  have hz1 : w.heap.size < w1.heap.size := lt_of_blk hbx
  have HX : Hid (∀ q, q < base → w1.heap[q]? = w.heap[q]?) := fun q hq => by have h0 := HK.out.2.2.2; exact (hb1.block q (by simp; omega)).trans (Lib.alloc_old w _ q (by omega))
  have HS : Hid (∀ y w2, LentAt w1.heap.size w2 (.slice aoM QM.length capM) y QM → Below w1.heap.size w1 w2 → DS w _ (.slice aoL QL.length capL) (.slice aoM QM.length capM) (.slice ax QL.length cx) y QL QM w2) := fun y w2 hy hb2 => DS.start rfl hx hb1 hy hb2
  clear hx hb1 hbx
  go_wp2_with fail
  refine (lent_any (lim := base) _ QM _ (HM.out.1.same HX.out) (by have := HK.out.2.2.2; omega) HM.out.2.2).mono ?_
  rintro e w2 ⟨y, rfl, hy, hb2⟩
  obtain ⟨ay, cy, rfl⟩ := hy.shape
  have HS2 : Hid (DS w _ (.slice aoL QL.length capL) (.slice aoM QM.length capM) (.slice ax QL.length cx) (.slice ay QM.length cy) QL QM w2) := HS.out _ _ hy hb2
  clear hy hb2 c7 HX HS hz1
  have c0 : w2.cell? ⟨w.heap.size, 0, none⟩ = some (.int .i64 4) := (Lib.cell_of_heap HS2.out.box 0).trans rfl
  have c1 : w2.cell? ⟨w.heap.size, 1, none⟩ = some (.int .i64 A) := (Lib.cell_of_heap HS2.out.box 1).trans rfl
  go_wp2_with fail
  refine (H1.out _ _ _ HS2.out.lx.qs HS2.out.lx.cap HS2.out.ly.qs HS2.out.ly.cap).mono ?_
  rintro e w3 ⟨lv, kv2, rfl, ⟨hl, hl2, hap⟩, hz, hn9, hb3⟩
  obtain ⟨al, cl, rfl⟩ := own_shape hl rfl
  obtain ⟨al2, cl2, rfl⟩ := own_shape hl2 rfl
  have HS3 : Hid (DS w _ (.slice aoL QL.length capL) (.slice aoM QM.length capM) (.slice ax QL.length cx) (.slice ay QM.length cy) QL QM w3) := HS2.out.stay hb3
  have HN : Hid ((w3.ownsRow w2.heap.size 45 3 (.slice al N.length cl) N.length (rowOf N) ∧ w3.ownsRow w2.heap.size 45 3 (.slice al2 N2.length cl2) N2.length (rowOf N2)) ∧ ((Value.slice al N.length cl = .slice none 0 0 ∨ err = 0) ∧ (Value.slice al2 N2.length cl2 = .slice none 0 0 ∨ err = 0)) ∧ Below w2.heap.size w2 w3 ∧ (N.length ≤ 900 ∧ N2.length ≤ 900) ∧ ∀ g, (Value.slice al N.length cl).ownBlock = some g → (Value.slice al2 N2.length cl2).ownBlock ≠ some g) := ⟨⟨hl, hl2⟩, ⟨hz.imp (fun h => h.1) id, hz.imp (fun h => h.2) id⟩, hb3, hn9 rfl, hap⟩
  clear hl hl2 hap hz hb3 hn9 c0 c1
  have c1 : w3.cell? ⟨w.heap.size, 1, none⟩ = some (.int .i64 A) := (Lib.cell_of_heap HS3.out.box 1).trans rfl
  have c6 : w3.cell? ⟨w.heap.size, 6, none⟩ = some (.slice aoL QL.length capL) := (Lib.cell_of_heap HS3.out.box 6).trans rfl
  have c7 : w3.cell? ⟨w.heap.size, 7, none⟩ = some (.slice aoM QM.length capM) := (Lib.cell_of_heap HS3.out.box 7).trans rfl
  go_wp2_with fail
  refine (H2.out _ _ _ ((HL.out.1.qs (by have := HK.out.2.2.2; omega)).below HS3.out.bel (Nat.le_refl _)) HL.out.2.1 ((HM.out.1.qs (by have := HK.out.2.2.2; omega)).below HS3.out.bel (Nat.le_refl _)) HM.out.2.1).mono ?_
  rintro e w4 ⟨mv, nv, rfl, ⟨hm, hm2, _⟩, hz, _, hb4⟩
  obtain ⟨am, cm, rfl⟩ := own_shape hm rfl
  obtain ⟨am2, cm2, rfl⟩ := own_shape hm2 rfl
  have HS4 : Hid (DS w _ (.slice aoL QL.length capL) (.slice aoM QM.length capM) (.slice ax QL.length cx) (.slice ay QM.length cy) QL QM w4) := HS3.out.stay hb4
  have HN4 : Hid (w4.ownsRow w2.heap.size 45 3 (.slice al N.length cl) N.length (rowOf N) ∧ w4.ownsRow w2.heap.size 45 3 (.slice al2 N2.length cl2) N2.length (rowOf N2) ∧ w4.ownsRow w3.heap.size 45 3 (.slice am N.length cm) N.length (rowOf N) ∧ w4.ownsRow w3.heap.size 45 3 (.slice am2 N2.length cm2) N2.length (rowOf N2) ∧ w2.heap.size ≤ w4.heap.size) := ⟨own_same HN.out.1.1 fun g _ hg => hb4.block g hg, own_same HN.out.1.2 fun g _ hg => hb4.block g hg, hm, hm2, by have := HN.out.2.2.1.size; have := hb4.size; omega⟩
  have HLT : Hid (∀ g, (Value.slice al N.length cl).ownBlock = some g → g < w3.heap.size) := by_hid3 (fun g hg => (own_block HN.out.1.1 hg).1)
  have HLT2 : Hid (∀ g, (Value.slice al2 N2.length cl2).ownBlock = some g → g < w3.heap.size) := by_hid3 (fun g hg => (own_block HN.out.1.2 hg).1)
  have hw24 := HN.out.2.2.1.size
  clear hm hm2 hz hb4 c1 c6 c7
  go_wp2_with fail
  refine (parts_eq base w2.heap.size w3.heap.size kv _ _ Vs err N _ (HK.out.1.stay HS4.out.bel) HN4.out.1 HN4.out.2.2.1 HN.out.2.1.1 (by have := HK.out.2.2.2; have := HS2.out.bel.size; omega) (Nat.le_trans HK.out.2.1 (by omega)) HN.out.2.2.2.1.1).mono ?_
  rintro e w5 ⟨rfl, kv', one, two, three, hK⟩
  have hlow := fun g (hg : (Value.slice al N.length cl).ownBlock = some g) => own_block HN4.out.1 hg
  have hD := HS2.out.kept HS4.out HN4.out.2.2.2.2 HK.out.1 hK HN.out.2.2.2.1.1 fun g hg => ⟨(hlow g hg).2.1, (hlow g hg).1⟩
  have hO := (HK.out.1.out w2.heap.size).kept hK HN4.out.2.2.2.2 fun g hg => .inr (hlow g hg).2.1
  have HE1 : Hid (DE base w _ (.slice aoL QL.length capL) (.slice aoM QM.length capM) (.slice ax QL.length cx) (.slice ay QM.length cy) QL QM kv' (Vs ++ [.slice al N.length cl, one, two, three]) w5 ∧ Out w.heap.size w2.heap.size base kv' (Vs ++ [.slice al N.length cl, one, two, three])) := ⟨hD, hO⟩
  have HK2 : Hid (w5.ownsRow w2.heap.size 45 3 (.slice al2 N2.length cl2) N2.length (rowOf N2) ∧ w5.ownsRow w3.heap.size 45 3 (.slice am2 N2.length cm2) N2.length (rowOf N2) ∧ w4.heap.size ≤ w5.heap.size) := by_hid3 (by
    have hbase := HK.out.2.2.2
    have hz2 := HS2.out.bel.size
    refine ⟨own_same HN4.out.2.1 fun g hg hlt => hK.old g hlt ?_ ?_ ?_, own_same HN4.out.2.2.2.1 fun g hg hlt => hK.old g hlt ?_ ?_ ?_, hK.bel.size⟩
    · have := (own_block HN4.out.2.1 hg).2.1
      omega
    · exact fun e => HN.out.2.2.2.2 g e hg
    · intro e
      have h1 := (own_block HK.out.1.row e).1
      have h2 := (own_block HN4.out.2.1 hg).2.1
      omega
    · have := (own_block HN4.out.2.2.2.1 hg).2.1
      omega
    · intro e
      have h1 := HLT.out g e
      have h2 := (own_block HN4.out.2.2.2.1 hg).2.1
      omega
    · intro e
      have h1 := (own_block HK.out.1.row e).1
      have h2 := (own_block HN4.out.2.2.2.1 hg).2.1
      omega)
  have HAP : Hid (∀ g, (Value.slice al2 N2.length cl2).ownBlock = some g → w2.heap.size ≤ g ∧ g < w5.heap.size ∧ ∀ i (_ : i < (Vs ++ [.slice al N.length cl, one, two, three]).length), (Vs ++ [.slice al N.length cl, one, two, three])[i].ownBlock ≠ some g) := by_hid3 (fun g hg => by
    have hz45 := HK2.out.2.2
    have hb2 := own_block HN4.out.2.1 hg
    refine ⟨hb2.2.1, by omega, fun i hi e => ?_⟩
    have hz2 := HS2.out.bel.size
    rcases Nat.lt_or_ge i Vs.length with hlt | hge
    · rw [List.getElem_append_left hlt] at e
      have := HK.out.1.lt i hlt g e
      omega
    · rw [List.getElem_append_right hge] at e
      have hmem : ([Value.slice al N.length cl, one, two, three])[i - Vs.length]'(by simp at hi ⊢; omega) ∈ [Value.slice al N.length cl, one, two, three] := List.getElem_mem _
      rcases List.mem_cons.1 hmem with e2 | e2
      · rw [e2] at e
        exact HN.out.2.2.2.2 g e hg
      · rcases hK.lo _ e2 g e with h1 | h1
        · exact HN.out.2.2.2.2 g h1 hg
        · have := hb2.1
          omega)
  clear hK hlow hD hO
  go_wp2_with fail
  refine (parts_eq base w2.heap.size w3.heap.size kv' _ _ (Vs ++ [.slice al N.length cl, one, two, three]) err N2 _ HE1.out.1.book HK2.out.1 HK2.out.2.1 HN.out.2.1.2 (by have := HK.out.2.2.2; have := HS2.out.bel.size; omega) (by have := HK.out.2.1; simp; omega) HN.out.2.2.2.1.2).mono ?_
  rintro e w6 ⟨rfl, kv9, one9, two9, three9, hK⟩
  have HE : Hid (DE base w _ (.slice aoL QL.length capL) (.slice aoM QM.length capM) (.slice ax QL.length cx) (.slice ay QM.length cy) QL QM kv9 ((Vs ++ [.slice al N.length cl, one, two, three]) ++ [.slice al2 N2.length cl2, one9, two9, three9]) w6) := HE1.out.1.kept HE1.out.2 HS2.out (by have := HK2.out.2.2; have := HN4.out.2.2.2.2; omega) hK HN.out.2.2.2.1.2 HAP.out
  clear hK
  have c6 : w6.cell? ⟨w.heap.size, 6, none⟩ = some (.slice aoL QL.length capL) := (Lib.cell_of_heap HE.out.box 6).trans rfl
  go_wp2_with fail
  refine (HE.out.first HL.out.1 HL.out.2.2).mono ?_
  rintro e w7 ⟨rfl, hF⟩
  have HF : Hid (DF base w _ _ _ _ _ _ w7) := hF
  clear hF c6
  have c7 : w7.cell? ⟨w.heap.size, 7, none⟩ = some (.slice aoM QM.length capM) := (Lib.cell_of_heap HF.out.box 7).trans rfl
  go_wp2_with fail
  refine (HF.out.second HM.out.1 HM.out.2.2).mono ?_
  rintro e w8 ⟨rfl, hb8, hk8⟩
  have HR : Hid (Below base w w8 ∧ Bk base w8 kv9 ((Vs ++ [.slice al N.length cl, one, two, three]) ++ [.slice al2 N2.length cl2, one9, two9, three9])) := ⟨hb8, hk8⟩
  clear hb8 hk8 c7
  go_wp2
  go_ret
  exact ⟨by simp, HR.out.1, kv9, _, HR.out.2, by simp⟩

theorem texts_9 {Q : List Qt} (ht : tlenQ Q ≤ 2000000) : (∀ q ∈ Q, q.text.length ≤ 2000000) ∧ (∀ q ∈ Q, q.text.length ≤ 1000000000) ∧ ∀ q ∈ Q, q.text.length ≤ 9223372036854775806 :=
  ⟨fun _ hq => Nat.le_trans (tlenQ_mem hq) ht, fun _ hq => Nat.le_trans (tlenQ_mem hq) (by omega), fun _ hq => Nat.le_trans (tlenQ_mem hq) (by omega)⟩

/-- an operation without errors. -/
theorem good_of {Q : List Qt} {A : Int} (he : errQ Q A = 0) (ht : tlenQ Q ≤ 2000000) : ∃ (L : List Pt) (us : List Un) (m : Nat), Q = L.map Pt.q ∧ A = m ∧ OpU L us m ∧ tlen L ≤ 2000000 ∧ ∀ p ∈ L, isText p.text = true := by
  have htx := texts_of_err he
  obtain ⟨L, m, rfl, rfl, hok⟩ := ok_of_err he (texts_9 ht).1
  rw [tlenQ_map] at ht
  obtain ⟨us, hu⟩ := opU_of_ok hok ht
  exact ⟨L, us, m, rfl, rfl, hu, ht, fun p hp => htx _ (List.mem_map_of_mem hp)⟩

theorem comp_says (QA QB : List Qt) (A : Int) (h1 : -9223372036854775808 ≤ A) (h2 : A ≤ 9223372036854775807) (hl : QA.length ≤ 1000000000) (hl' : QB.length ≤ 1000000000) (ht : tlenQ QA ≤ 2000000) (ht' : tlenQ QB ≤ 2000000) :
    ∃ N err, CompSays true 19 QA QB A N err ∧ CompSays false 65 QA QB A N err := by
  have tA := texts_9 ht
  have tB := texts_9 ht'
  by_cases he : errQ QA A = 0
  · obtain ⟨L, us, n, rfl, rfl, hu, hf, htx⟩ := good_of he ht
    have hin := hu.fits
    obtain ⟨m, hm⟩ : ∃ m, m + inU us = n + outU us := ⟨n + outU us - inU us, by omega⟩
    have hdl : (n : Int) + dl L = m := by rw [hu.reads.dl]; omega
    by_cases he' : errQ QB m = 0
    · obtain ⟨M, vs, m', rfl, hmm, hv, hf', htx'⟩ := good_of he' ht'
      have : m = m' := by omega
      subst this
      exact ⟨normU (compU us vs), 0, Compose_own L M us vs n m hu hv hm, rCompose_ok L M us vs n m hu hf he htx hm hv hf' he' htx'⟩
    · refine ⟨[], errQ QB m, ?_, rCompose_err2 L us QB n m hu hf he htx hm (by omega) tB.2.1 he'⟩
      have h := Compose_err2 L us QB n hu (by omega) tB.2.2 (by rw [hdl]; exact he')
      rw [hdl] at h
      exact h
  · exact ⟨[], errQ QA A, Compose_err1 QA QB A (by omega) tA.2.2 h1 h2 he, rCompose_err1 QA QB A (by omega) tA.2.1 h1 h2 he⟩

theorem tra_says (QA QB : List Qt) (A : Int) (h1 : -9223372036854775808 ≤ A) (h2 : A ≤ 9223372036854775807) (hl : QA.length ≤ 1000000000) (hl' : QB.length ≤ 1000000000) (ht : tlenQ QA ≤ 2000000) (ht' : tlenQ QB ≤ 2000000) :
    ∃ N1 N2 err, TraSays true 20 QA QB A N1 N2 err ∧ TraSays false 66 QA QB A N1 N2 err := by
  have tA := texts_9 ht
  have tB := texts_9 ht'
  by_cases he : errQ QA A = 0
  · obtain ⟨L, us, n, rfl, rfl, hu, hf, htx⟩ := good_of he ht
    by_cases he' : errQ QB n = 0
    · obtain ⟨M, vs, m', rfl, hmm, hv, hf', htx'⟩ := good_of he' ht'
      have : n = m' := by omega
      subst this
      obtain ⟨xs, hx, _⟩ := reads_norm us hu.reads.ok
      obtain ⟨ys, hy, _⟩ := reads_norm vs hv.reads.ok
      exact ⟨normU (traU xs ys).1, normU (traU xs ys).2, 0, Transform_own L M us vs xs ys n hu hv hx hy, rTransform_ok L M us vs xs ys n hu hf he htx hv hf' he' htx' hx hy⟩
    · exact ⟨[], [], errQ QB n, Transform_err2 L us QB n hu (by omega) tB.2.2 he', rTransform_err2 L us QB n hu hf he (by omega) tB.2.1 he'⟩
  · exact ⟨[], [], errQ QA A, Transform_err1 QA QB A (by omega) tA.2.2 h1 h2 he, rTransform_err1 QA QB A (by omega) tA.2.1 h1 h2 he⟩

theorem inv_says (Q : List Qt) (t : List UInt8) (hl : Q.length ≤ 1000000000) (ht : tlenQ Q ≤ 2000000) (hs : t.length ≤ 2000000) :
    ∃ N err, InvSays true 21 Q t N err ∧ InvSays false 67 Q t N err := by
  have tQ := texts_9 ht
  cases hx : isText t
  · exact ⟨[], 2, Invert_bad Q t (by omega) hx, rInvert_bad Q t (by omega) hx⟩
  · by_cases he : errQ Q (charsL t).length = 0
    · obtain ⟨L, us, m, rfl, hm, hu, hf, htx⟩ := good_of he ht
      have e : (charsL t).length = m := by omega
      rw [← e] at hu
      have hte := text_eq hx
      refine ⟨normU (invU us (charsL t)), 0, ?_, rInvert_ok L us t hu hf hs hx he htx⟩
      have h := Invert_own L us (charsL t) hu (text_chars t) (by rw [← hte]; omega)
      rw [← hte] at h
      exact h
    · exact ⟨[], _, Invert_err Q t (by omega) tQ.2.2 (by omega) hx he, rInvert_err Q t (by omega) tQ.2.1 (by omega) hx he⟩

theorem done_says_compose (o : Stp) (hK : o.K = 3) (hs : Small o) : DoneSays o := by
  intro base w kv Vs hk hV ho
  obtain ⟨N, err, h1, h2⟩ := comp_says o.QL o.QM o.A hs.lo hs.hi ho.1.2.2 ho.2.2.2 hs.l hs.m
  rw [hK]
  exact done_compose base o.A o.B o.C o.D o.S o.L o.M kv o.QL o.QM Vs N err w hk (by omega) ho.1 ho.2 h1 h2

theorem done_says_transform (o : Stp) (hK : o.K = 4) (hs : Small o) : DoneSays o := by
  intro base w kv Vs hk hV ho
  obtain ⟨N, N2, err, h1, h2⟩ := tra_says o.QL o.QM o.A hs.lo hs.hi ho.1.2.2 ho.2.2.2 hs.l hs.m
  rw [hK]
  exact done_transform base o.A o.B o.C o.D o.S o.L o.M kv o.QL o.QM Vs N N2 err w hk (by omega) ho.1 ho.2 h1 h2

theorem done_says_invert (o : Stp) (hK : o.K = 5) (hs : Small o) : DoneSays o := by
  intro base w kv Vs hk hV ho
  obtain ⟨N, err, h1, h2⟩ := inv_says o.QL o.S ho.1.2.2 hs.l hs.txt
  rw [hK]
  exact done_invert base o.A o.B o.C o.D o.S o.L o.M kv o.QL o.QM Vs N err w hk (by omega) ho.1 ho.2 h1 h2

set_option maxHeartbeats 1000000 in
set_option maxRecDepth 100000 in
theorem algebra_any (sv : Value) (Ss : List Stp) (w : World) (hs : StepsAt w sv Ss) (hst : ∀ o ∈ Ss, StpOk w.heap.size w o) (hsm : ∀ o ∈ Ss, Small o) (hn : Ss.length ≤ 2000000) :
    Calls Try.prog 5 #[sv] w fun e w' => e = .returned (.bool true) ∧ Below w.heap.size w w' := by
  have hb : Below w.heap.size w (w.alloc (.cells #[.int .i64 3, .int .i64 4, .int .i64 5] 3)) := (Below.refl _ _).alloc (Nat.le_refl _) _
  have HC : Hid (Calls Try.prog 9 #[sv, .slice (some ⟨w.heap.size, 0, none⟩) 3 3] (w.alloc (.cells #[.int .i64 3, .int .i64 4, .int .i64 5] 3)) fun e w' => e = .returned (.bool true) ∧ Below w.heap.size w w') := by
    refine (plays_any sv Ss [3, 4, 5] w.heap.size 3 _ (steps_in hs hb) (fun o ho => (hst o ho).mono hb.size fun q hq => hb.block q hq) (ints_of_new w [3, 4, 5]) (by simp) (by simp) hn ?_).mono ?_
    · intro o ho hK
      have hsm2 : Small o := by
        rcases List.mem_append.1 ho with h | h
        · exact first_small _ o h
        · exact hsm o h
      simp only [List.mem_cons, List.not_mem_nil, or_false] at hK
      rcases hK with h | h | h
      · exact ⟨by omega, by omega, done_says_compose o h hsm2⟩
      · exact ⟨by omega, by omega, done_says_transform o h hsm2⟩
      · exact ⟨by omega, by omega, done_says_invert o h hsm2⟩
    · rintro e w' ⟨rfl, h⟩
      exact ⟨rfl, hb.trans (h.mono hb.size)⟩
  clear hs hst hsm hb
  go_enter Try.func5, Try.ntmps5
  go_wp2_with fail
  refine HC.out.mono ?_
  rintro e w' ⟨rfl, hbb⟩
  go_wp2
  go_ret
  exact ⟨rfl, hbb⟩

end Go.Proofs.Ytpiankiacbghcaa
